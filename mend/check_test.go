package mend

import (
	"math"
	"slices"
	"strings"
	"testing"

	"corncrib/api"
)

// Promise 4.1: shards that go together, in any order, just k of them and more: 0 and OK.
func TestCheck(t *testing.T) {
	s := seed(1)
	for _, x := range codes() {
		k, m := x[0], x[1]
		for _, n := range []int{0, 1, 2, 300, 2051, 2052} {
			l := s.shuffle(number(slices.Repeat([]string{strings.Repeat("a", n)}, k+m)...))
			checked(t, x, k, m, l, 0, api.OK)
			checked(t, x, k, m, l[:k], 0, api.OK)
			checked(t, x, k, m, l[m:], 0, api.OK)
		}
	}
}

// Promise 4.1: what is no code is refused ahead of all else, at -1, whatever the shards are.
func TestNoCode(t *testing.T) {
	long := strings.Repeat("a", 2053)
	for _, x := range noCodes() {
		for _, l := range [][]api.Shard{nil, {}, {{}}, number("a"), number("a", "b"), {{I: -1}}, {{I: 1, S: "a"}, {I: 1, S: "b"}}, number(long), number("a", "bc"), number(make([]string, 256)...)} {
			refused(t, x, x[0], x[1], l, -1, api.ErrRange)
		}
	}
	checked(t, "the greatest k", 255, 0, nil, -1, api.ErrFew)
	checked(t, "the greatest m", 1, 254, nil, -1, api.ErrFew)
}

// Promise 4.1: a number of which there is no shard, at whatever place it stands.
func TestNoNumber(t *testing.T) {
	for _, x := range [][2]int{{1, 0}, {1, 2}, {2, 0}, {2, 2}, {3, 1}, {5, 7}, {128, 127}, {255, 0}} {
		k, m := x[0], x[1]
		l := number(make([]string, k+m)...)
		for _, i := range noNumbers(k + m) {
			if i >= 0 && i < k+m {
				continue
			}
			for _, at := range []int{0, k - 1, k + m - 1} {
				wrong := slices.Clone(l)
				wrong[at].I = i
				refused(t, []int{k, m, i}, k, m, wrong, at, api.ErrRange)
				refused(t, []int{k, m, i}, k, m, wrong[:at+1], at, api.ErrRange)
			}
		}
		checked(t, x, k, m, l, 0, api.OK) // the numbers 0 and k + m - 1 are there
	}
}

// Promise 4.1: a number that stands twice, at the later place, also behind the first k, and with just the same bytes.
func TestTwice(t *testing.T) {
	for _, x := range [][2]int{{1, 1}, {2, 0}, {2, 2}, {3, 1}, {5, 7}, {128, 127}, {255, 0}} {
		k, m := x[0], x[1]
		l := number(slices.Repeat([]string{"a"}, k+m)...)
		for _, at := range []int{1, k - 1, k + m - 1} {
			for _, ahead := range []int{0, at / 2, at - 1} {
				if ahead < 0 || ahead >= at {
					continue
				}
				wrong := slices.Clone(l)
				wrong[at].I = wrong[ahead].I
				refused(t, []int{k, m, ahead, at}, k, m, wrong, at, api.ErrThere)
				wrong[at].S = "b"
				refused(t, []int{k, m, ahead, at}, k, m, wrong, at, api.ErrThere)
			}
		}
		refused(t, x, k, m, append(slices.Clone(l), l...), k+m, api.ErrThere)
	}
	refused(t, "very many", 2, 1, make([]api.Shard, 1<<16), 1, api.ErrThere)
}

// Promise 4.1: shards of more than 2052 bytes, the first one of them too, and those behind the first k.
func TestTooLong(t *testing.T) {
	for _, n := range []int{2053, 2054, 4096, 1 << 16, 1 << 20} {
		long := strings.Repeat("a", n)
		refused(t, n, 1, 0, number(long), 0, api.ErrLong)
		refused(t, n, 1, 2, number(long, long, long), 0, api.ErrLong)
		refused(t, n, 2, 1, number(long, "a"), 0, api.ErrLong)
		refused(t, n, 2, 1, number("a", long), 1, api.ErrLong)
		refused(t, n, 2, 1, number("a", "b", long), 2, api.ErrLong)
		refused(t, n, 2, 1, number("", long, "b"), 1, api.ErrLong)
		refused(t, n, 2, 1, number(long[:2052], long, long[:2052]), 1, api.ErrLong)
	}
	checked(t, "just not", 2, 1, number(slices.Repeat([]string{strings.Repeat("a", 2052)}, 3)...), 0, api.OK)
}

// Promise 4.1: shards that are not as long as the first one, shorter and longer, also behind the first k.
func TestUneven(t *testing.T) {
	for i, x := range []struct {
		k  int
		l  []string
		at int
	}{
		{2, []string{"a", ""}, 1},
		{2, []string{"", "a"}, 1},
		{2, []string{"a", "bc"}, 1},
		{2, []string{"ab", "c"}, 1},
		{2, []string{"ab", "cd", "e"}, 2},
		{2, []string{"ab", "cd", "efg"}, 2},
		{2, []string{"ab", "c", "d"}, 1}, // the first one is what they are held against, not most of them
		{1, []string{"ab", "cd", ""}, 2},
		{1, []string{"ab", "cde", "f"}, 1},
		{3, []string{strings.Repeat("a", 2052), strings.Repeat("a", 2052), strings.Repeat("a", 2051)}, 2},
	} {
		refused(t, i, x.k, 3, number(x.l...), x.at, api.ErrShape)
	}
	l := number(slices.Repeat([]string{"\x00"}, 255)...)
	l[254].S = "\x00\x00"
	refused(t, "the last of 255", 255, 0, l, 254, api.ErrShape)
}

// Promise 4.1: fewer than k, none and one less too.
func TestFew(t *testing.T) {
	s := seed(2)
	for _, x := range codes() {
		k, m := x[0], x[1]
		refused(t, x, k, m, nil, -1, api.ErrFew)
		refused(t, x, k, m, []api.Shard{}, -1, api.ErrFew)
		l := s.shuffle(number(make([]string, k+m)...))
		refused(t, x, k, m, l[:k-1], -1, api.ErrFew)
		refused(t, x, k, m, l[:k/2], -1, api.ErrFew)
		checked(t, x, k, m, l[:k], 0, api.OK)
	}
}

// Promise 4.1: of several faults in one list the first one counts, whichever it is, ahead of there being too few.
func TestFirstFault(t *testing.T) {
	const k, m = 3, 2
	long := strings.Repeat("a", 2053)
	faults := []struct {
		s api.Shard
		e api.Errno
	}{
		{api.Shard{I: 5, S: "a"}, api.ErrRange}, {api.Shard{I: -1, S: "a"}, api.ErrRange},
		{api.Shard{I: 4, S: "a"}, api.ErrThere},
		{api.Shard{I: 1, S: long}, api.ErrLong},
		{api.Shard{I: 2, S: "ab"}, api.ErrShape}, {api.Shard{I: 3}, api.ErrShape},
	}
	for i, x := range faults {
		for j, y := range faults {
			l := []api.Shard{{I: 4, S: "a"}, x.s, y.s}
			refused(t, []int{i, j}, k, m, l, 1, x.e)
			refused(t, []int{i, j}, k, m, append(l, l...), 1, x.e)
			l = []api.Shard{{I: 4, S: "a"}, {I: 0, S: "b"}, x.s, {I: 1, S: "c"}, y.s}
			refused(t, []int{i, j}, k, m, l, 2, x.e)
		}
		refused(t, i, k, m, []api.Shard{{I: 4, S: "a"}, x.s}, 1, x.e)
	}
}

// Promise 4.1: of several faults of one shard that counts which the chapter names first.
func TestFaultsOfOne(t *testing.T) {
	long := strings.Repeat("a", 2053)
	a := api.Shard{I: 1, S: "a"}
	for i, x := range []struct {
		l  []api.Shard
		at int
		e  api.Errno
	}{
		{[]api.Shard{{I: 3, S: long}}, 0, api.ErrRange},
		{[]api.Shard{{I: math.MinInt, S: long}}, 0, api.ErrRange},
		{[]api.Shard{a, {I: 3, S: "ab"}}, 1, api.ErrRange},
		{[]api.Shard{a, {I: -1, S: long}}, 1, api.ErrRange},
		{[]api.Shard{a, {I: 1, S: long}}, 1, api.ErrThere},
		{[]api.Shard{a, {I: 1, S: "ab"}}, 1, api.ErrThere},
		{[]api.Shard{a, {I: 1}}, 1, api.ErrThere},
		{[]api.Shard{a, {I: 0, S: long}}, 1, api.ErrLong},
		{[]api.Shard{{I: 1, S: long}, {I: 1, S: "a"}}, 0, api.ErrLong},
		{[]api.Shard{{I: 1, S: long}, {I: 3, S: long}}, 0, api.ErrLong},
		{[]api.Shard{{I: 3}, {I: 3}}, 0, api.ErrRange},
	} {
		refused(t, i, 2, 1, x.l, x.at, x.e)
	}
}
