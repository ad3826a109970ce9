package record

import (
	"slices"
	"strings"
	"testing"

	"corncrib/api"
)

// Promise 8.1: bytes that are no pack: cut short, or with something behind.
func TestNoPack(t *testing.T) {
	for _, r := range append(kinds(), newMaker(1).records(60)...) {
		s := hand(r)
		for cut := range len(s) {
			noRecord(t, s[:cut])
		}
		for b := range 256 {
			noRecord(t, s+string([]byte{byte(b)}))
		}
		noRecord(t, s+s)
	}
	for _, s := range []string{"", "\x00", "\x00\x00", "\x80", "\x06", strings.Repeat("\xff", 50), strings.Repeat("\x00", 50)} {
		noRecord(t, s)
	}
}

// Promises 8.1, 8.2: numbers that are written in more bytes than there must be.
func TestWiderNumbers(t *testing.T) {
	written(t, ofKind(api.RDo), "\x06\x04\x0a\x12\x00\x00\x00\x02\x00\x00")
	for _, s := range []string{
		"\x86\x00\x04\x0a\x12\x00\x00\x00\x02\x00\x00",
		"\x06\x84\x00\x0a\x12\x00\x00\x00\x02\x00\x00",
		"\x06\x04\x0a\x12\x00\x80\x00\x00\x02\x00\x00",
		"\x06\x04\x0a\x12\x00\x00\x80\x00\x02\x00\x00",
		"\x06\x04\x0a\x12\x00\x00\x00\x82\x00\x00\x00",
		"\x06\x04\x0a\x12\x00\x00\x00\x02\x00\x80\x00",
	} {
		noRecord(t, s)
	}
}

// Promise 8.1: packs of fewer numbers than their texts ask for, and of fewer than each record has, whatever their texts.
func TestFewNumbers(t *testing.T) {
	for _, r := range kinds() {
		nums, texts := numsOf(r), textsOf(r)
		for n := range nums {
			noRecord(t, packed(nums[:n], texts...))
			noRecord(t, packed(nums[n+1:], texts...))
		}
		for n := range 6 {
			for m := range texts {
				noRecord(t, packed(nums[:n], texts[:m]...))
			}
		}
	}
}

// Promise 8.1: packs of more numbers than each record has, each of which would be a write's.
func TestManyNumbers(t *testing.T) {
	for _, r := range kinds() {
		nums, texts := numsOf(r), textsOf(r)
		for _, more := range [][]int{{0}, {1}, {0, 0}, {1, 0, 1}, make([]int, 1000)} {
			noRecord(t, packed(append(slices.Clone(nums), more...), texts...))
		}
		noRecord(t, packed(append([]int{0}, nums...), texts...))
	}
}

// Promise 8.1: packs of fewer or more texts than their keys and writes tell.
func TestTextsTooFewOrMany(t *testing.T) {
	for _, r := range kinds() {
		nums, texts := numsOf(r), textsOf(r)
		for n := range texts {
			noRecord(t, packed(nums, texts[:n]...))
			noRecord(t, packed(nums, texts[n+1:]...))
		}
		for _, more := range [][]string{{""}, {"x"}, {"y", "z"}, {"y", ""}, make([]string, 1000)} {
			noRecord(t, packed(nums, append(slices.Clone(texts), more...)...))
		}
	}
}

// Promise 8.1: packs that tell another number of keys, among them those which more or fewer writes would make good.
func TestKeysTold(t *testing.T) {
	for _, r := range kinds() {
		texts := textsOf(r)
		for n := -40; n < 40; n++ {
			nums := numsOf(r)
			if nums[5] == n {
				continue
			}
			nums[5] = n
			noRecord(t, packed(nums, texts...))
		}
		for _, n := range []int{1 << 10, 1 << 20, 1 << 32, 1 << 61, 1<<62 - 1, -1 << 32, -1 << 61, -1 << 62} {
			nums := numsOf(r)
			nums[5] = n
			noRecord(t, packed(nums, texts...))
		}
	}
}

// Promise 8.1: a number of keys below 0, made up for by writes.
func TestKeysBelowNothing(t *testing.T) {
	for writes := range 12 {
		for below := 1; below <= 2*writes+2; below++ {
			nums := append([]int{1, 5, 0, 0, 0, -below}, make([]int, writes)...)
			texts := make([]string, 2+2*writes-below)
			noRecord(t, packed(nums, texts...))
			copy(texts[min(len(texts), 2):], keysUpTo(50))
			noRecord(t, packed(nums, texts...))
		}
	}
}

// Promise 8.1: what is one's key could be another one's write: the number of keys alone tells it.
func TestKeysOrWrites(t *testing.T) {
	texts := []string{"", "", "a", "b", "c", "d"}
	for keys, want := range map[int]api.Record{
		4: {Kind: 1, Txn: 5, Keys: []string{"a", "b", "c", "d"}},
		2: {Kind: 1, Txn: 5, Keys: []string{"a", "b"}, Writes: []api.Write{{Key: "c", Shard: "d"}}},
		0: {Kind: 1, Txn: 5, Writes: []api.Write{{Key: "a", Shard: "b"}, {Key: "c", Shard: "d"}}},
	} {
		nums := append([]int{1, 5, 0, 0, 0, keys}, make([]int, (4-keys)/2)...)
		written(t, want, packed(nums, texts...))
	}
}

// Promise 8.1: a write is dead by 1, is not by 0, and there is nothing else.
func TestDeadWrites(t *testing.T) {
	for i := range 3 {
		for _, dead := range []int{-1, 2, 3, 256, 257, 1 << 32, 1<<32 + 1, 1<<62 - 1, -1 << 62} {
			nums := []int{1, 5, 0, 0, 0, 0, 1, 1, 1}
			nums[6+i] = dead
			noRecord(t, packed(nums, "", "", "a", "", "b", "", "c", ""))
		}
	}
	for i := range 8 {
		nums := []int{1, 5, 0, 0, 0, 0, i & 1, i >> 1 & 1, i >> 2}
		r := api.Record{Kind: 1, Txn: 5, Writes: []api.Write{{Key: "a", Dead: i&1 == 1}, {Key: "b", Dead: i&2 == 2}, {Key: "c", Dead: i&4 == 4}}}
		written(t, r, packed(nums, "", "", "a", "", "b", "", "c", ""))
	}
}

// Promise 8.1: a version is dead by 1, is not by 0, and there is nothing else; of another kind it is 0.
func TestDeadVersions(t *testing.T) {
	for dead := range 2 {
		written(t, api.Record{Kind: 3, Ts: 9, Key: "k", Dead: dead == 1}, packed([]int{3, 0, 9, 0, dead, 0}, "k", ""))
	}
	noRecord(t, packed([]int{3, 0, 9, 0, 1, 0}, "k", "shard"))
	for _, r := range kinds() {
		r.Text = ""
		for _, dead := range []int{-1, 2, 3, 256, 257, 1 << 32, 1<<32 + 1, 1<<62 - 1, -1 << 62} {
			nums := numsOf(r)
			nums[4] = dead
			noRecord(t, packed(nums, textsOf(r)...))
		}
		if r.Kind != api.RVer {
			nums := numsOf(r)
			nums[4] = 1
			noRecord(t, packed(nums, textsOf(r)...))
		}
	}
}

// Promise 8.1: packs of a record that may not be, number by number.
func TestPacksThatMayNotBe(t *testing.T) {
	for i, wrong := range [][]int{{0, 8, -1}, {0, -1, 1 << 50}, {-1, 1<<50 + 1}, {-1, 16}} {
		for _, n := range wrong {
			nums := []int{1, 5, 9, 3, 0, 0}
			nums[i] = n
			noRecord(t, packed(nums, "", ""))
		}
	}
	written(t, api.Record{Kind: 1, Txn: 5, Ts: 9, Coord: 3}, packed([]int{1, 5, 9, 3, 0, 0}, "", ""))
	noRecord(t, packed([]int{1, 5, 9, 3, 0, 2}, "", "", "b", "a"))
	noRecord(t, packed([]int{1, 5, 9, 3, 0, 0}, "k", ""))
	noRecord(t, packed([]int{1, 5, 9, 3, 0, 0}, "", "x"))
	noRecord(t, packed([]int{3, 0, 9, 0, 0, 0}, "", "x"))
	noRecord(t, packed([]int{3, 0, 9, 0, 0, 0}, "k", strings.Repeat("x", topShard+1)))
}

// Promise 8.1: packs of as many items as one may have, which no record has.
func TestGreatPacks(t *testing.T) {
	for _, kind := range []int{1, 2, 3, 7} {
		head := []int{kind, 5, 9, 0, 0}
		texts := append([]string{"", ""}, keysUpTo(1022)...)
		noRecord(t, packed(append(head[:5:5], 1022), texts...))
		noRecord(t, packed(append(append(head[:5:5], 0), make([]int, 511)...), texts...))
		noRecord(t, packed(append(append(head[:5:5], 17), make([]int, 17)...), texts[:2+51]...))
	}
}
