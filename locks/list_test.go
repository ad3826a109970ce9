package locks

import (
	"slices"
	"testing"

	"corncrib/api"
)

// Promise 18.1: the places of those that clash with a record, rising: none, some and all of them.
func TestBlockers(t *testing.T) {
	l := list("a/b", "b/c", "c/", "/", "a/", "d/e", "/b")
	for _, x := range []struct {
		r    string
		want []int
	}{
		{"/", nil},
		{"a/", nil},
		{"a d/", nil},
		{"x/y", nil},
		{"a/y", nil},
		{"b/", []int{0, 6}},
		{"c/", []int{1}},
		{"e/", []int{5}},
		{"/a", []int{0, 4}},
		{"/b", []int{0, 1, 6}},
		{"/c", []int{1, 2}},
		{"/d", []int{5}},
		{"b c/", []int{0, 1, 6}},
		{"b/a", []int{0, 4, 6}},
		{"a c e/d", []int{1, 5}},
		{"/a b c d", []int{0, 1, 2, 4, 5, 6}},
		{"/-b", []int{0, 1, 6}},
	} {
		blockers(t, l, list(x.r)[0], x.want...)
		blockers(t, nil, list(x.r)[0])
		blockers(t, []api.Record{}, list(x.r)[0])
	}
	all := list("/k", "k/", "a k/", "a/k", "/a k", "j k/l")
	blockers(t, all, prep(9, "", "k"), 0, 1, 2, 3, 4, 5)
	blockers(t, all, prep(9, "k", ""), 0, 3, 4)
	blockers(t, all, prep(9, "k", "z"), 0, 3, 4)
	blockers(t, all, prep(9, "kk", "j\x00"))
}

// Promise 18.1: of a list of one record its place, or none.
func TestBlockersOfOne(t *testing.T) {
	for _, a := range may() {
		for _, b := range may() {
			var want []int
			if clashByWords(a, b) {
				want = []int{0}
			}
			blockers(t, []api.Record{a}, b, want...)
		}
	}
}

// Promise 18.1: the record itself, and others of its transaction, are held against it as any other one.
func TestBlockersOfOneTransaction(t *testing.T) {
	r := prep(5, "a", "b")
	blockers(t, []api.Record{r}, r, 0)
	blockers(t, []api.Record{r, prep(5, "c", "d"), r, prep(5, "b", "")}, r, 0, 2, 3)
	r = prep(5, "a", "")
	blockers(t, []api.Record{r, r, prep(5, "", "a"), r}, r, 2)
}

// Promise 18.1: one of as many as there may be, in each place.
func TestBlockersInEachPlace(t *testing.T) {
	l := apart(topList)
	for i := range l {
		blockers(t, l, prep(999, keyOf(2*i+1), ""), i)
		blockers(t, l, prep(999, "", keyOf(2*i)), i)
		blockers(t, l, prep(999, keyOf(2*i), ""))
	}
	blockers(t, l, prep(999, keyOf(511), keyOf(0)), 0, 255)
	var every []int
	for i := range topList {
		every = append(every, i)
	}
	blockers(t, slices.Repeat([]api.Record{prep(5, "a", "b")}, topList), prep(6, "b", ""), every...)
}

// Promise 18.1: a list is quiet, if no two of its records clash.
func TestQuiet(t *testing.T) {
	for _, x := range []struct {
		l     []string
		quiet bool
	}{
		{nil, true},
		{[]string{"/"}, true},
		{[]string{"a/"}, true},
		{[]string{"a/a"}, true}, // with itself alone
		{[]string{"a b/c"}, true},
		{[]string{"/", "/", "/"}, true},
		{[]string{"a/", "a/"}, true},
		{[]string{"a/b", "a/c"}, true},
		{[]string{"a/b", "b/c"}, false},
		{[]string{"b/c", "a/b"}, false},
		{[]string{"/a", "/a"}, false},
		{[]string{"a/b", "a/c", "a/d"}, true},
		{[]string{"a/", "b/", "/c", "/d", "a b/"}, true},
		{[]string{"a/b", "c/d", "b/e"}, false}, // the first and the last one alone
		{[]string{"b/a", "c/d", "e/f", "g/h", "/b"}, false},
		{[]string{"/x", "a/b", "c/d", "x/"}, false},
		{[]string{"a/b", "c/d", "d/e"}, false}, // the last two alone
		{[]string{"a/b", "b/d", "e/f"}, false}, // the first two alone
		{[]string{"a/b", "b/a", "b/a"}, false},
		{[]string{"k/", "kk/", "/kkk", "/j"}, true},
	} {
		quiet(t, list(x.l...), x.quiet)
	}
	quiet(t, []api.Record{}, true)
	quiet(t, may()[:3], true)
}

// Promise 18.1: records of one transaction are held against each other, and so is the same one twice over.
func TestQuietOfOneTransaction(t *testing.T) {
	for _, x := range []struct {
		a, b  string
		quiet bool
	}{{"a/b", "a/c", true}, {"a/b", "b/", false}, {"a/", "a/", true}, {"/a", "/a", false}} {
		l := list(x.a, x.b)
		l[1].Txn = l[0].Txn
		quiet(t, l, x.quiet)
	}
	for _, r := range []api.Record{prep(5, "a", "b"), prep(5, "", "b"), prep(5, "a", "a")} {
		quiet(t, []api.Record{r}, true)
		quiet(t, []api.Record{r, r}, false)
	}
	r := prep(5, "a b", "")
	quiet(t, []api.Record{r, r, r}, true)
}

// Promise 18.1: two that clash are found in any two places of a long list, the others of which do not.
func TestQuietInEachPlace(t *testing.T) {
	for _, n := range []int{2, 3, 4, 17} {
		for i := range n {
			for j := range n {
				l := apart(n)
				quiet(t, l, true)
				if i != j {
					l[i].Keys, l[j].Writes = []string{"x"}, prep(9, "", "x").Writes
					quiet(t, l, false)
					admits(t, l, slices.DeleteFunc(places(n), func(at int) bool { return at == max(i, j) })...)
				}
			}
		}
	}
}

// places answers the numbers from 0 on, so many.
func places(n int) []int {
	var l []int
	for i := range n {
		l = append(l, i)
	}
	return l
}

// Promises 18.1 and 18.2: a list has at most 256 records, whatever they are.
func TestTooMany(t *testing.T) {
	for _, n := range []int{0, 1, 2, 255, 256} {
		l := apart(n)
		blockers(t, l, prep(999, keyOf(1), ""), places(min(n, 1))...)
		quiet(t, l, true)
		admits(t, l, places(n)...)
		keys(t, l, keysByWords(l)...)
		if got, _ := Keys(l); len(got) != 2*n {
			t.Error(n, len(got))
		}
	}
	for _, n := range []int{257, 258, 512, 1024, 5000} {
		refused(t, apart(n), api.ErrLong)
		refused(t, slices.Repeat([]api.Record{prep(1, "", "")}, n), api.ErrLong)
		refused(t, slices.Repeat([]api.Record{prep(1, "a", "b")}, n), api.ErrLong)
	}
	same := slices.Repeat([]api.Record{prep(5, "a", "b")}, topList)
	quiet(t, same, false)
	admits(t, same, 0)
	keys(t, same, "a", "b")
	most := slices.Repeat([]api.Record{prep(6, words(0, topWrite), "")}, topList)
	quiet(t, most, true)
	admits(t, most, places(topList)...)
}

// Promises 18.1 and 18.2: ErrRecord of one that may not be, or is no RPrep, wherever it stands in a list, and alone.
func TestWrongInLists(t *testing.T) {
	for _, r := range wrong() {
		refused(t, []api.Record{r}, api.ErrRecord)
		refused(t, []api.Record{r, r}, api.ErrRecord)
		for _, n := range []int{2, 3, 5, 255, 256} {
			for _, at := range []int{0, n / 2, n - 1} {
				refused(t, with(apart(n), at, r), api.ErrRecord)
			}
		}
		// Among such as clash: quiet is not told ahead of what is wrong behind them.
		refused(t, []api.Record{prep(1, "a", "b"), prep(2, "b", "a"), r}, api.ErrRecord)
		refused(t, []api.Record{r, prep(1, "a", "b"), prep(2, "b", "a")}, api.ErrRecord)
	}
}

// Promise 18.1: so it is of the record that is held against a list, whatever the list is.
func TestBlockersOfWrongRecord(t *testing.T) {
	for _, r := range wrong() {
		for _, l := range [][]api.Record{nil, {}, apart(1), apart(3), apart(topList), list("a/b", "b/a"), {r}, {prep(1, "a", "b"), r}} {
			noBlockers(t, l, r, api.ErrRecord)
		}
	}
}

// Promises 18.1 and 18.2: a list of too many is told ahead of wrong records.
func TestTooManyAheadOfWrong(t *testing.T) {
	for _, r := range wrong() {
		for _, at := range []int{0, 128, 255, 256} {
			refused(t, with(apart(257), at, r), api.ErrLong)
		}
		refused(t, slices.Repeat([]api.Record{r}, 257), api.ErrLong)
		refused(t, slices.Repeat([]api.Record{r}, 256), api.ErrRecord)
		noBlockers(t, apart(257), r, api.ErrLong)
		noBlockers(t, with(apart(257), 0, r), r, api.ErrLong)
		noBlockers(t, apart(256), r, api.ErrRecord)
	}
}
