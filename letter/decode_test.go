package letter

import (
	"slices"
	"strings"
	"testing"

	"corncrib/api"
)

// Promise 7.1: bytes that are no pack: cut short, or with something behind.
func TestNoPack(t *testing.T) {
	for _, l := range append(kinds(), newMaker(1).letters(60)...) {
		s := hand(l)
		for cut := range len(s) {
			noLetter(t, s[:cut])
		}
		for b := range 256 {
			noLetter(t, s+string([]byte{byte(b)}))
		}
		noLetter(t, s+s)
	}
	for _, s := range []string{"", "\x00", "\x00\x00", "\x80", "\x07", strings.Repeat("\xff", 50), strings.Repeat("\x00", 50)} {
		noLetter(t, s)
	}
}

// Promises 7.1, 7.2: numbers that are written in more bytes than there must be.
func TestWiderNumbers(t *testing.T) {
	written(t, ofKind(api.LAsk), "\x07\x0e\x02\x04\x0a\x00\x00\x00\x01\x00")
	for _, s := range []string{
		"\x87\x00\x0e\x02\x04\x0a\x00\x00\x00\x01\x00",
		"\x07\x8e\x00\x02\x04\x0a\x00\x00\x00\x01\x00",
		"\x07\x0e\x02\x04\x0a\x00\x00\x80\x00\x01\x00",
		"\x07\x0e\x02\x04\x0a\x00\x00\x00\x81\x00\x00",
		"\x07\x0e\x02\x04\x0a\x00\x00\x00\x01\x80\x00",
	} {
		noLetter(t, s)
	}
}

// Promise 7.1: packs of fewer numbers than their texts ask for, and of fewer than each letter has, whatever their texts.
func TestFewNumbers(t *testing.T) {
	for _, l := range kinds() {
		nums, texts := numsOf(l), textsOf(l)
		for n := range nums {
			noLetter(t, packed(nums[:n], texts...))
			noLetter(t, packed(nums[n+1:], texts...))
		}
		for n := range 7 {
			for m := range texts {
				noLetter(t, packed(nums[:n], texts[:m]...))
			}
		}
	}
}

// Promise 7.1: packs of more numbers than each letter has, each of which would be a write's.
func TestManyNumbers(t *testing.T) {
	for _, l := range kinds() {
		nums, texts := numsOf(l), textsOf(l)
		for _, more := range [][]int{{0}, {1}, {0, 0}, {1, 0, 1}, make([]int, 1000)} {
			noLetter(t, packed(append(slices.Clone(nums), more...), texts...))
		}
		noLetter(t, packed(append([]int{0}, nums...), texts...))
	}
}

// Promise 7.1: packs of fewer or more texts than their keys and writes tell.
func TestTextsTooFewOrMany(t *testing.T) {
	for _, l := range kinds() {
		nums, texts := numsOf(l), textsOf(l)
		for n := range texts {
			noLetter(t, packed(nums, texts[:n]...))
			noLetter(t, packed(nums, texts[n+1:]...))
		}
		for _, more := range [][]string{{""}, {"x"}, {"y", "z"}, {"y", ""}, make([]string, 1000)} {
			noLetter(t, packed(nums, append(slices.Clone(texts), more...)...))
		}
	}
}

// Promise 7.1: packs that tell another number of keys, among them those which more or fewer writes would make good.
func TestKeysTold(t *testing.T) {
	for _, l := range kinds() {
		texts := textsOf(l)
		for n := -40; n < 40; n++ {
			nums := numsOf(l)
			if nums[6] == n {
				continue
			}
			nums[6] = n
			noLetter(t, packed(nums, texts...))
		}
		for _, n := range []int{1 << 10, 1 << 20, 1 << 32, 1 << 61, 1<<62 - 1, -1 << 32, -1 << 61, -1 << 62} {
			nums := numsOf(l)
			nums[6] = n
			noLetter(t, packed(nums, texts...))
		}
	}
}

// Promise 7.1: a number of keys below 0, made up for by writes.
func TestKeysBelowNothing(t *testing.T) {
	for writes := range 12 {
		for below := 1; below <= 2*writes+1; below++ {
			nums := append([]int{3, 1, 100, 5, 0, 0, -below}, make([]int, writes)...)
			texts := make([]string, 1+2*writes-below)
			noLetter(t, packed(nums, texts...))
			copy(texts[min(len(texts), 1):], keysUpTo(50))
			noLetter(t, packed(nums, texts...))
		}
	}
}

// Promise 7.1: what is one's key could be another one's write: the number of keys alone tells it.
func TestKeysOrWrites(t *testing.T) {
	texts := []string{"", "a", "b", "c", "d"}
	for keys, want := range map[int]api.Letter{
		4: {Kind: 3, From: 1, To: 2, Txn: 5, Keys: []string{"a", "b", "c", "d"}},
		2: {Kind: 3, From: 1, To: 2, Txn: 5, Keys: []string{"a", "b"}, Writes: []api.Write{{Key: "c", Shard: "d"}}},
		0: {Kind: 3, From: 1, To: 2, Txn: 5, Writes: []api.Write{{Key: "a", Shard: "b"}, {Key: "c", Shard: "d"}}},
	} {
		nums := append([]int{3, 1, 2, 5, 0, 0, keys}, make([]int, (4-keys)/2)...)
		written(t, want, packed(nums, texts...))
	}
}

// Promise 7.1: a write is dead by 1, is not by 0, and there is nothing else.
func TestDeadNumbers(t *testing.T) {
	for i := range 3 {
		for _, dead := range []int{-1, 2, 3, 256, 257, 1 << 32, 1<<62 - 1, -1 << 62} {
			nums := []int{3, 100, 1, 5, 0, 0, 0, 1, 1, 1}
			nums[7+i] = dead
			noLetter(t, packed(nums, "", "a", "", "b", "", "c", ""))
		}
	}
	for i := range 8 {
		nums := []int{3, 100, 1, 5, 0, 0, 0, i & 1, i >> 1 & 1, i >> 2}
		l := api.Letter{Kind: 3, From: 100, To: 1, Txn: 5, Writes: []api.Write{{Key: "a", Dead: i&1 == 1}, {Key: "b", Dead: i&2 == 2}, {Key: "c", Dead: i&4 == 4}}}
		written(t, l, packed(nums, "", "a", "", "b", "", "c", ""))
	}
}

// Promise 7.1: packs of as many items as one may have, which no letter has.
func TestGreatPacks(t *testing.T) {
	for _, kind := range []int{1, 2, 3, 7} {
		head := []int{kind, 1, 100, 5, 0, 0}
		noLetter(t, packed(append(head[:6:6], 1023), append([]string{""}, keysUpTo(1023)...)...))
		noLetter(t, packed(append(append(head[:6:6], 1), make([]int, 511)...), append([]string{""}, keysUpTo(1023)...)...))
		noLetter(t, packed(append(append(head[:6:6], 17), make([]int, 17)...), append([]string{""}, keysUpTo(51)...)...))
	}
}
