package locks

import (
	"slices"
	"strings"
	"testing"

	"corncrib/api"
)

// Promise 18.2: one after the other is admitted, unless it clashes with one that was admitted ahead of it.
func TestAdmit(t *testing.T) {
	for _, x := range []struct {
		l    []string
		want []int
	}{
		{nil, nil},
		{[]string{"/"}, []int{0}},
		{[]string{"a/a"}, []int{0}},
		{[]string{"/", "/"}, []int{0, 1}},
		{[]string{"a/", "a/"}, []int{0, 1}},
		{[]string{"a/b", "a/c"}, []int{0, 1}},
		{[]string{"/a", "/a"}, []int{0}},
		{[]string{"/a", "a/"}, []int{0}},
		{[]string{"a/", "/a"}, []int{0}},
		{[]string{"/a", "/a", "/a", "/b"}, []int{0, 3}},
		{[]string{"a/", "/a", "a/", "/a", "a/"}, []int{0, 2, 4}},
		{[]string{"/a", "a/", "a/", "b/"}, []int{0, 3}},
		{[]string{"a/b", "b/c", "c/d"}, []int{0, 2}}, // the second one is refused, and clashes with the third
		{[]string{"/b", "b/c", "c/"}, []int{0, 2}},   // so here, by what it writes
		{[]string{"/b", "b c/", "/c"}, []int{0, 2}},  // and by what it reads
		{[]string{"a/b", "b/c", "c/d", "d/e", "e/f"}, []int{0, 2, 4}},
		{[]string{"a/b", "b/c", "/b c", "c/b"}, []int{0}},
		{[]string{"a/b", "c/d", "b d/", "a c/"}, []int{0, 1, 3}},
		{[]string{"a/b", "c/d", "/a c", "e/f"}, []int{0, 1, 3}},
		{[]string{"a/", "b/", "c/", "/c", "/d"}, []int{0, 1, 2, 4}},
		{[]string{"/-a", "a/", "/-a", "/b"}, []int{0, 3}},
		{[]string{"a/", "aa/", "/aaa", "/ab", "/a"}, []int{0, 1, 2, 3}},
	} {
		admits(t, list(x.l...), x.want...)
	}
	admits(t, []api.Record{})
}

// Promise 18.2: what the order is matters to who is admitted.
func TestAdmitInOrder(t *testing.T) {
	l := list("a/b", "b/c", "c/d")
	admits(t, l, 0, 2)
	admits(t, []api.Record{l[1], l[0], l[2]}, 0)
	admits(t, []api.Record{l[0], l[2], l[1]}, 0, 1)
	admits(t, []api.Record{l[2], l[1], l[0]}, 0, 2)
}

// Promise 18.2: records of one transaction are held against each other, and the same one twice over.
func TestAdmitOfOneTransaction(t *testing.T) {
	r := prep(5, "a", "b")
	admits(t, []api.Record{r, r, r}, 0)
	admits(t, []api.Record{r, prep(5, "a", "c"), r, prep(5, "b", "")}, 0, 1)
	r = prep(5, "a", "")
	admits(t, []api.Record{r, r, r}, 0, 1, 2)
}

// Promise 18.2: all keys that are read or written, rising, each once.
func TestKeys(t *testing.T) {
	for _, x := range []struct {
		l    []string
		want string
	}{
		{nil, ""},
		{[]string{"/"}, ""},
		{[]string{"/", "/"}, ""},
		{[]string{"a/"}, "a"},
		{[]string{"/a"}, "a"},
		{[]string{"/-a"}, "a"},
		{[]string{"a/a"}, "a"}, // read and written by one
		{[]string{"a/", "/a"}, "a"},
		{[]string{"a/", "a/"}, "a"},
		{[]string{"/a", "/a"}, "a"},
		{[]string{"/a", "a/"}, "a"},
		{[]string{"a c/b"}, "a b c"},
		{[]string{"b/a c"}, "a b c"},
		{[]string{"c/", "b/", "a/"}, "a b c"},
		{[]string{"/c", "b/", "/a", "b/c"}, "a b c"},
		{[]string{"b d/a c", "e f/d", "a/f"}, "a b c d e f"},
		{[]string{"a/aa", "ab/b", "/A Z"}, "A Z a aa ab b"},
		{[]string{"z/", "/", "/y"}, "y z"},
	} {
		keys(t, list(x.l...), strings.Fields(x.want)...)
	}
	keys(t, []api.Record{})
}

// Promise 18.2: keys rise by their bytes, whatever these are, and as many as there may be.
func TestKeysByBytes(t *testing.T) {
	all := []string{"\x00", "\x00\x00", "\x01", "9", "A", "a", "a\x00", "a\x00b", "aa", "é", "\xc3\xff", strings.Repeat("\xff", topKey-1), strings.Repeat("\xff", topKey)}
	slices.Sort(all)
	var l []api.Record
	for i := range all {
		key := all[len(all)-1-i]
		l = append(l, api.Record{Kind: api.RPrep, Txn: 1 + i, Keys: []string{key}})
		keys(t, l, all[len(all)-1-i:]...)
		l = append(l, api.Record{Kind: api.RPrep, Txn: 1 + i, Writes: []api.Write{{Key: key, Dead: i%2 == 0}}})
		keys(t, l, all[len(all)-1-i:]...)
	}
	var want []string
	l = nil
	for i := range topList {
		r := prep(1+i, words(32*(topList-1-i), topWrite), words(32*(topList-1-i)+topWrite, topWrite))
		l = append(l, r)
	}
	for i := range 32 * topList {
		want = append(want, keyOf(i))
	}
	keys(t, l, want...)
	quiet(t, l, true)
}
