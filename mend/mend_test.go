package mend

import (
	"slices"
	"strings"
	"testing"

	"corncrib/api"
)

// abc answers the shards of abc under the code 2, 1, worked out apart from the program.
func abc() []api.Shard {
	return number("\x00\x00\x00\x03", "abc\x00", "\xd4\xd5\x21\x8f")
}

// Promise 4.2: the chapter's example: the third and the second shard make abc.
func TestExample(t *testing.T) {
	l := []api.Shard{abc()[2], abc()[1]}
	made(t, "abc", 2, 1, l, []string{"\x00\x00\x00\x03", "abc\x00"})
	object(t, "abc", 2, 1, l, "abc")
	for _, s := range abc() {
		one(t, "abc", 2, 1, l, s)
	}
	agreed(t, "abc", 2, 1, l, true)
	agreed(t, "abc", 2, 1, append(l, abc()[0]), true)
	agreed(t, "abc", 2, 1, append(l, api.Shard{S: "\x00\x00\x00\x04"}), false)
}

// Promise 4.2: shards that were worked out apart from the program.
func TestWorkedOut(t *testing.T) {
	for _, x := range []struct {
		k, m   int
		object string
		all    []string
	}{
		{1, 2, "ab", []string{"\x00\x00\x00\x02ab", "\x00\x00\x00\x02ab", "\x00\x00\x00\x01\xbe\x31"}},
		{2, 2, "", []string{"\x00\x00", "\x00\x00", "\x00\x00", "\x00\x00"}},
		{3, 2, "\xff\x00\xc3\xa9x", []string{"\x00\x00\x00", "\x05\xff\x00", "\xc3\xa9x", "\x4f\x58\x78", "\xaf\x8e\x14"}},
		{4, 2, "hello", []string{"\x00\x00\x00", "\x05he", "llo", "\x00\x00\x00", "\x13\xa8\x76", "\x52\x0e\x99"}},
		{5, 1, "", []string{"\x00", "\x00", "\x00", "\x00", "\x00", "\x00"}},
		{2, 0, "abc", []string{"\x00\x00\x00\x03", "abc\x00"}},
	} {
		all := number(x.all...)
		for _, l := range orders(all, x.k) {
			made(t, x.object, x.k, x.m, l, x.all[:x.k])
			object(t, x.object, x.k, x.m, l, x.object)
			for _, s := range all {
				one(t, x.object, x.k, x.m, l, s)
			}
		}
	}
}

// Promise 4.2: data shards of any bytes, which need be no object's, of any k shards in any order.
func TestData(t *testing.T) {
	h, s := newHand(), seed(3)
	for _, x := range smallCodes() {
		for _, n := range []int{0, 1, 2, 33} {
			data := s.texts(x[0], n)
			for _, l := range orders(h.all(x[1], data), x[0]) {
				made(t, x, x[0], x[1], l, data)
			}
		}
	}
	for _, x := range greatCodes() {
		for _, n := range []int{0, 1, 20} {
			data := s.texts(x[0], n)
			all := h.all(x[1], data)
			made(t, x, x[0], x[1], all[x[1]:], data) // as few data shards as can be
			for range 3 {
				made(t, x, x[0], x[1], s.shuffle(all)[:x[0]], data)
			}
		}
	}
}

// Promise 4.2: so are those of 2052 bytes.
func TestLongestShards(t *testing.T) {
	h, s := newHand(), seed(4)
	for _, x := range [][2]int{{1, 0}, {1, 254}, {2, 3}, {17, 2}, {128, 127}, {254, 1}, {255, 0}} {
		k, m := x[0], x[1]
		data := s.texts(k, 2052)
		all := h.all(m, data)
		made(t, x, k, m, all[m:], data)
		made(t, x, k, m, s.shuffle(all), data)
		one(t, x, k, m, s.shuffle(all), all[0])
		one(t, x, k, m, s.shuffle(all), all[k+m-1])
		agreed(t, x, k, m, s.shuffle(all), true)
	}
}

// Promise 4.2: any bytes at all under any k numbers are of some data shards, whose own shards they are.
func TestAnyBytes(t *testing.T) {
	h, s := newHand(), seed(5)
	for _, x := range codes() {
		k, m := x[0], x[1]
		l := s.shuffle(h.all(m, s.texts(k, 4)))[:k]
		for i := range l {
			l[i].S = s.text(4)
		}
		data, e := Data(k, m, l)
		if e != api.OK || len(data) != k {
			t.Fatalf("%v: %d, %d shards", x, e, len(data))
		}
		all := h.all(m, data)
		for _, s := range l {
			if all[s.I] != s {
				t.Errorf("%v, shard %d: %x, not %x", x, s.I, all[s.I].S, s.S)
			}
		}
		for _, i := range []int{0, k - 1, k + m - 1, s.next(k + m), s.next(k + m)} {
			one(t, x, k, m, l, all[i])
		}
		agreed(t, x, k, m, l, true)
	}
}

// Promise 4.2: shards of no bytes have data of no bytes, and are no object's.
func TestNoBytes(t *testing.T) {
	for _, x := range codes() {
		k, m := x[0], x[1]
		l := number(make([]string, k+m)...)
		for _, l := range [][]api.Shard{l, l[:k], l[m:]} {
			made(t, x, k, m, l, make([]string, k))
			agreed(t, x, k, m, l, true)
			one(t, x, k, m, l, api.Shard{I: 0})
			one(t, x, k, m, l, api.Shard{I: k + m - 1})
			if o, e := Object(k, m, l); e != api.ErrPad || o != "" {
				t.Errorf("%v: %d, %q", x, e, o)
			}
		}
	}
}

// Promise 4.2: shards that are no object's have data, but no object.
func TestPad(t *testing.T) {
	h := newHand()
	for i, data := range [][]string{
		{"\x00\x00\x00"}, {"\x00", "\x00"}, // too few for a length
		{"\x00\x00\x00\x04abc"}, {"\x00\x00\x00\x05", "abcd"}, // a length that is too great
		{"\x00\x00\x00\x02", "abc\x00"}, {"\x00\x00\x00\x03", "abcd"}, // bytes behind that are not 0
		{"\x00\x00\x00\x03abc\x00"}, {"\x00\x00\x00", "\x00\x00\x00"}, {"\x00\x00\x00\x02", "ab\x00\x00"}, // more than need be
		{"\x01\x00\x00\x03", "abc\x00"}, {"\xff\xff\xff\xff", "abcd"}, {"abc\x00", "\x00\x00\x00\x03"},
		{strings.Repeat("\x00", 2052)}, {strings.Repeat("\xff", 2052), strings.Repeat("\xff", 2052)},
		{"\x00\x00\x08\x01" + strings.Repeat("z", 1023), strings.Repeat("z", 1026) + "\x00"}, // a length that no object has
	} {
		k := len(data)
		for _, l := range orders(h.all(2, data), k) {
			made(t, i, k, 2, l, data)
			if o, e := Object(k, 2, l); e != api.ErrPad || o != "" {
				t.Errorf("%d: %d, %q", i, e, o)
			}
		}
	}
}

// Promise 4.2: a number of which there is no shard, behind what Check refuses.
func TestOneRange(t *testing.T) {
	h, s := newHand(), seed(6)
	for _, x := range codes() {
		k, m := x[0], x[1]
		all := h.all(m, s.texts(k, 3))
		for _, i := range noNumbers(k + m) {
			if i >= 0 && i < k+m {
				continue
			}
			for _, l := range [][]api.Shard{all, all[:k], all[m:]} {
				if got, e := One(k, m, l, i); e != api.ErrRange || got != "" {
					t.Errorf("%v, shard %d: %d, %q", x, i, e, got)
				}
			}
			if got, e := One(k, m, all[:k-1], i); e != api.ErrFew || got != "" {
				t.Errorf("%v, shard %d of too few: %d, %q", x, i, e, got)
			}
		}
	}
}

// Promise 4.2, Words: what stands behind the first k is not looked at, whatever bytes it has: only Agree tells of it.
func TestBehindTheFirst(t *testing.T) {
	h, s := newHand(), seed(7)
	for _, x := range [][2]int{{1, 1}, {1, 4}, {2, 1}, {2, 3}, {3, 2}, {4, 2}, {12, 5}, {100, 10}} {
		k, m := x[0], x[1]
		text := s.text(50)
		all := h.all(m, pieces(k, text))
		for range 4 {
			l := s.shuffle(all)
			for i := k; i < k+m; i++ {
				l := turned(l, i, s.next(len(l[i].S)), s.next(8))
				made(t, x, k, m, l, texts(all[:k]))
				object(t, x, k, m, l, text)
				one(t, x, k, m, l, all[l[0].I])
				one(t, x, k, m, l, all[l[i].I]) // that which is made, not that which stands there
				agreed(t, x, k, m, l, false)
			}
		}
	}
}

// Promise 4.2: whether all agree: just k always do; of more, one turned bit anywhere is told.
func TestAgree(t *testing.T) {
	h, s := newHand(), seed(8)
	for _, x := range smallCodes() {
		k, m := x[0], x[1]
		all := h.all(m, s.texts(k, 3))
		agreed(t, x, k, m, all, true)
		for n := k; n <= k+m; n++ {
			l := s.shuffle(all)[:n]
			agreed(t, x, k, m, l, true)
			for i := range l {
				for place := range 3 {
					for bit := range 8 {
						agreed(t, x, k, m, turned(l, i, place, bit), n == k)
					}
				}
			}
		}
	}
}

// Promise 4.2: shards that were swapped, or that are another object's, do not agree.
func TestAgreeOthers(t *testing.T) {
	h := newHand()
	a, b := h.all(2, pieces(3, "corncrake")), h.all(2, pieces(3, "landrails"))
	for i := range a {
		l := slices.Clone(a)
		l[i] = b[i]
		agreed(t, i, 3, 2, l, slices.Equal(l, a)) // the lengths are the same, and so may be a shard
		for j := range i {
			l := slices.Clone(a)
			l[i].I, l[j].I = l[j].I, l[i].I
			agreed(t, []int{i, j}, 3, 2, l, l[i].S == l[j].S)
		}
	}
}
