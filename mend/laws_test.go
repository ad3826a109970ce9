package mend

import (
	"math"
	"slices"
	"strings"
	"testing"
	"unsafe"

	"corncrib/api"
	"corncrib/stripe"
)

// encoded answers the shards of an object, with their numbers.
func encoded(t *testing.T, k, m int, text string) []api.Shard {
	t.Helper()
	l, e := stripe.Encode(k, m, text)
	if e != api.OK || len(l) != k+m {
		t.Fatalf("%d, %d: %d, %d shards", k, m, e, len(l))
	}
	return number(l...)
}

// whole fails, unless these shards make the object, its data shards, and those of the numbers asked for, and agree.
func whole(t *testing.T, k, m int, l, all []api.Shard, text string, ask ...int) {
	t.Helper()
	what := []int{k, m, len(text)}
	checked(t, what, k, m, l, 0, api.OK)
	made(t, what, k, m, l, texts(all[:k]))
	object(t, what, k, m, l, text)
	for _, i := range ask {
		one(t, what, k, m, l, all[i])
	}
	agreed(t, what, k, m, l, true)
}

// Promise 4.3: of small codes, any k in any order make the object again, and each shard.
func TestAnyShards(t *testing.T) {
	s := seed(9)
	for _, x := range smallCodes() {
		k, m := x[0], x[1]
		var each []int
		for i := range k + m {
			each = append(each, i)
		}
		for _, n := range []int{0, 1, 5, 64} {
			text := s.text(n)
			all := encoded(t, k, m, text)
			for _, l := range orders(all, k) {
				whole(t, k, m, l, all, text, each...)
			}
		}
	}
}

// Promise 4.3: of great codes so do many, those of the fewest data shards too; with more than k they agree.
func TestManyShards(t *testing.T) {
	s := seed(10)
	for _, x := range greatCodes() {
		k, m := x[0], x[1]
		for _, n := range []int{0, 252, 2048} {
			text := s.text(n)
			all := encoded(t, k, m, text)
			whole(t, k, m, all[m:], all, text, 0, k-1, k+m-1)
			l := s.shuffle(all)
			whole(t, k, m, l[:k], all, text, 0, k+m-1, s.next(k+m))
			whole(t, k, m, l[:k+s.next(m+1)], all, text, s.next(k+m))
			whole(t, k, m, l, all, text, s.next(k+m))
		}
	}
}

// Promise 4.3: objects of all kinds of lengths.
func TestLengths(t *testing.T) {
	s := seed(11)
	for n := 0; n <= 2048; n += 1 + n/9 {
		for _, x := range [][2]int{{1, 1}, {2, 1}, {3, 2}, {5, 7}, {12, 0}} {
			text := s.text(n)
			all := encoded(t, x[0], x[1], text)
			l := s.shuffle(all)
			whole(t, x[0], x[1], l, all, text, s.next(x[0]+x[1]))
			zero := strings.Repeat("\x00", n)
			all = encoded(t, x[0], x[1], zero)
			whole(t, x[0], x[1], s.shuffle(all)[:x[0]], all, zero, 0)
		}
	}
}

// Promise 4.3: shards that are lost, made again one by one, are as good as those that were.
func TestLostAgain(t *testing.T) {
	s := seed(12)
	for _, x := range [][2]int{{1, 3}, {2, 2}, {3, 4}, {6, 6}, {20, 20}} {
		k, m := x[0], x[1]
		text := s.text(321)
		all := encoded(t, k, m, text)
		l := s.shuffle(all)
		var again []api.Shard
		for _, lost := range l[k:] {
			made, e := One(k, m, l[:k], lost.I)
			if e != api.OK {
				t.Fatalf("%v: %d", x, e)
			}
			again = append(again, api.Shard{I: lost.I, S: made})
		}
		l = s.shuffle(append(again, l[:k]...))
		whole(t, k, m, l, all, text, 0, k+m-1)
		whole(t, k, m, l[:k], all, text, 0, k+m-1)
	}
}

// P1: no call panics, whatever it is given, and each wrong argument is told.
func TestWildArguments(t *testing.T) {
	sides := []int{math.MinInt, -256, -1, 0, 1, 2, 3, 254, 255, 256, math.MaxInt}
	lists := [][]api.Shard{nil, {}, {{}}, {{I: math.MinInt}}, {{I: math.MaxInt, S: "a"}}, number("a"), number("a", "b"), number("a", "b", "c"), {{I: 2, S: "\xff"}, {I: 0, S: "\x00"}}, number("", "a"), number(make([]string, 255)...), number(make([]string, 300)...), number(strings.Repeat("a", 1<<20))}
	for _, k := range sides {
		for _, m := range sides {
			for at, l := range lists {
				_, e := Check(k, m, l)
				data, f := Data(k, m, l)
				ok, g := Agree(k, m, l)
				if e != f || e != g || e != api.OK && (len(data) != 0 || ok) || e == api.OK && len(data) != k {
					t.Errorf("%d, %d, list %d: %d, %d, %d", k, m, at, e, f, g)
				}
				if o, f := Object(k, m, l); f != e && f != api.ErrPad || f != api.OK && o != "" {
					t.Errorf("%d, %d, list %d: %d, object %d", k, m, at, e, f)
				}
				for _, i := range sides {
					s, f := One(k, m, l, i)
					want := e
					if e == api.OK && (i < 0 || i >= k+m) {
						want = api.ErrRange
					}
					if f != want || f != api.OK && s != "" {
						t.Errorf("%d, %d, list %d, shard %d: %d, not %d", k, m, at, i, f, want)
					}
				}
			}
		}
	}
}

// R4: the shards that are handed in stay, and what lies behind them is neither read nor written.
func TestShardsStay(t *testing.T) {
	behind := []api.Shard{abc()[2], abc()[1], {I: -1, S: "behind"}, {I: 7}}
	kept := slices.Clone(behind)
	l := behind[:2]
	data, _ := Data(2, 1, l)
	object(t, "abc", 2, 1, l, "abc")
	one(t, "abc", 2, 1, l, abc()[0])
	one(t, "abc", 2, 1, l, abc()[1])
	agreed(t, "abc", 2, 1, l, true)
	checked(t, "abc", 2, 1, l, 0, api.OK)
	refused(t, "with what lies behind", 2, 1, behind, 2, api.ErrRange)
	refused(t, "too few", 3, 1, l, -1, api.ErrFew)
	if !slices.Equal(behind, kept) {
		t.Errorf("changed: %v", behind)
	}
	behind[1] = api.Shard{I: 0, S: "abcd"}
	if !slices.Equal(data, []string{"\x00\x00\x00\x03", "abc\x00"}) {
		t.Errorf("kept: %q", data)
	}
}

// R4: no answer shares its memory with what was handed in, with another answer, or within itself.
func TestAnswersAreNew(t *testing.T) {
	s := seed(13)
	all := encoded(t, 3, 3, s.text(40))
	same := number(slices.Repeat([]string{s.text(9)}, 3)...) // one memory, handed in three times
	given := append(texts(all), same[0].S)
	kept := slices.Clone(given)
	var l []string
	for range 2 {
		for _, part := range [][]api.Shard{all, all[:3], all[2:], all[3:], same} {
			data, _ := Data(3, 3, part)
			l = append(l, data...)
			for i := range 6 {
				shard, _ := One(3, 3, part, i)
				l = append(l, shard)
			}
		}
		o, _ := Object(3, 3, all)
		l = append(l, o)
	}
	if !slices.Equal(given, kept) {
		t.Error("changed")
	}
	for i, a := range l {
		if a == "" {
			t.Errorf("answer %d has nothing", i)
		}
		for j, b := range append(l[:i:i], given...) {
			if shares(a, b) {
				t.Errorf("answer %d shares its memory with %d", i, j)
			}
		}
	}
}

// shares tells whether two texts lie, in part, in the same memory.
func shares(a, b string) bool {
	x, y := uintptr(unsafe.Pointer(unsafe.StringData(a))), uintptr(unsafe.Pointer(unsafe.StringData(b)))
	return x < y+uintptr(len(b)) && y < x+uintptr(len(a))
}

// R4: lists that are answered are new, spare room too.
func TestListsAreNew(t *testing.T) {
	all := abc()
	for _, l := range [][]api.Shard{all, all[:2], all[1:]} {
		for range 2 {
			data, _ := Data(2, 1, l)
			data = data[:cap(data)]
			for j := range data {
				data[j] = "other"
			}
		}
		made(t, "abc", 2, 1, l, []string{"\x00\x00\x00\x03", "abc\x00"})
	}
}

// R3, R7: nil and empty lists are the same, and the same call tells the same, whatever was asked between.
func TestSameCallSameAnswer(t *testing.T) {
	s := seed(14)
	all := s.shuffle(encoded(t, 5, 4, s.text(99)))
	for range 3 {
		want, e := Data(5, 4, all)
		shard, _ := One(5, 4, all, 7)
		Data(4, 5, all)
		One(1, 8, all, 3)
		Agree(5, 4, turned(all, 8, 0, 0))
		refused(t, "nil", 5, 4, nil, -1, api.ErrFew)
		refused(t, "empty", 5, 4, []api.Shard{}, -1, api.ErrFew)
		made(t, e, 5, 4, all, want)
		one(t, e, 5, 4, all, api.Shard{I: 7, S: shard})
	}
}
