package locks

import (
	"strings"
	"testing"

	"corncrib/api"
)

// The chapter's example.
func TestExample(t *testing.T) {
	clash(t, prep(1, "a", "b"), prep(2, "b", ""), true)
	clash(t, prep(1, "a", ""), prep(2, "a", ""), false)
}

// Promise 18.1: two clash, if one writes a key that the other one reads or writes, each way round.
func TestClash(t *testing.T) {
	for _, x := range []struct {
		a, b  string // what is read, and behind a slash what is written
		clash bool
	}{
		{"/", "/", false},
		{"/", "a/a", false},
		{"/", "/a", false},
		{"a/", "a/", false},
		{"a/", "b/", false},
		{"a/", "/b", false},
		{"a/", "/a", true},
		{"/a", "/b", false},
		{"/a", "/a", true},
		{"a/a", "a/", true},
		{"a/a", "/a", true},
		{"a/a", "a/a", true},
		{"a/b", "a/c", false},
		{"a/b", "b/a", true},
		{"a/b", "c/a", true},
		{"a b c/", "a b c/", false},
		{"a b c/d", "a b c/e", false},
		{"a b c/d", "/c", true},
		{"a b c/d", "/a", true},
		{"/a c e", "/b d f", false},
		{"/a c e", "/b d e", true},
		{"/a c e", "a d f/", true},
		{"/a c e", "b c d/", true},
		{"/a c e", "b d f/", false},
		{"/-a", "a/", true},
		{"/-a", "/-a", true},
		{"/-a", "/a", true},
		{"a/-b", "a/-c", false},
		{"a/-b", "-b/", false}, // a key of a - and a b
	} {
		l := list(x.a, x.b)
		clash(t, l[0], l[1], x.clash)
	}
}

// Promise 18.1: keys are held against each other whole.
func TestClashWholeKeys(t *testing.T) {
	full := strings.Repeat("k", topKey)
	all := []string{"a", "aa", "ab", "a\x00", "\x00a", "\x00", "A", "b", "ba", "\xff", "\xffa", "é", "e", full, full[1:], full[1:] + "j"}
	for i, one := range all {
		for j, other := range all {
			r := api.Record{Kind: api.RPrep, Txn: 1, Writes: []api.Write{{Key: one, Shard: "s"}}}
			clash(t, r, api.Record{Kind: api.RPrep, Txn: 2, Writes: []api.Write{{Key: other, Shard: "s"}}}, i == j)
			clash(t, r, api.Record{Kind: api.RPrep, Txn: 2, Keys: []string{other}}, i == j)
			clash(t, api.Record{Kind: api.RPrep, Txn: 1, Keys: []string{one}}, api.Record{Kind: api.RPrep, Txn: 2, Keys: []string{other}}, false)
		}
	}
}

// Promise 18.1: one key is enough, wherever it stands among as many as there may be.
func TestClashWhereverItStands(t *testing.T) {
	for i := range topWrite {
		for j := range topWrite {
			a, b := prep(1, words(0, topWrite), words(100, topWrite)), prep(2, words(200, topWrite), words(300, topWrite))
			clash(t, a, b, false)
			// Both lists rise with one key changed, as it is above the one ahead of it and below the next one.
			both := words(100+i, 1) + "x"
			a.Writes[i].Key = both
			b.Keys = strings.Fields(words(0, j) + " " + both + " " + words(200, topWrite-1-j))
			clash(t, a, b, true)
			b.Keys = nil
			clash(t, a, b, false)
			b.Writes = prep(2, "", words(0, j)+" "+both+" "+words(200, topWrite-1-j)).Writes
			clash(t, a, b, true)
			a.Keys, a.Writes = []string{both}, nil
			clash(t, a, b, true)
			a.Keys = nil
			clash(t, a, b, false)
		}
	}
}

// Promise 18.1: records of one transaction, and the same record twice over, clash by their keys alone.
func TestClashOfOneTransaction(t *testing.T) {
	for _, x := range []struct {
		a, b  string
		clash bool
	}{{"a/b", "b/", true}, {"a/", "/a", true}, {"/a", "/a", true}, {"a/b", "a/c", false}, {"a/", "a/", false}, {"/", "/", false}} {
		l := list(x.a, x.b)
		for _, txn := range []int{1, 7, topTxn} {
			l[0].Txn, l[1].Txn = txn, txn
			l[0].Ts, l[1].Ts, l[0].Coord, l[1].Coord = 4, 4, 2, 2
			clash(t, l[0], l[1], x.clash)
			l[1].Txn, l[1].Ts, l[1].Coord = 3, 9, 5
			clash(t, l[0], l[1], x.clash)
		}
		for _, r := range l {
			clash(t, r, r, len(r.Writes) > 0)
		}
	}
}

// Promise 18.1: what is written to a key, and when it was begun, does not matter.
func TestClashWhateverIsWritten(t *testing.T) {
	for _, one := range []api.Write{{Key: "k"}, {Key: "k", Shard: "s"}, {Key: "k", Dead: true}, {Key: "k", Shard: strings.Repeat("s", topShard)}} {
		for _, other := range []api.Write{{Key: "k"}, {Key: "k", Shard: "s"}, {Key: "k", Dead: true}, {Key: "j", Shard: "s"}} {
			for _, ts := range []int{0, 1, topStamp} {
				a := api.Record{Kind: api.RPrep, Txn: 1, Writes: []api.Write{one}}
				b := api.Record{Kind: api.RPrep, Txn: 2, Ts: ts, Coord: ts % 16, Writes: []api.Write{other}}
				clash(t, a, b, other.Key == "k")
			}
		}
	}
}

// Promise 18.1: records at the edges of what they may have are no fault.
func TestClashOfAllThatMayBe(t *testing.T) {
	for _, a := range may() {
		for _, b := range may() {
			clash(t, a, b, clashByWords(a, b))
		}
	}
}

// Promise 18.1: ErrRecord of one that may not be, or is no RPrep, in either place and in both, whether they would clash or not.
func TestClashOfWrongRecords(t *testing.T) {
	for _, r := range wrong() {
		for _, right := range append(may(), prep(1, "a b c d", "a b c d k")) {
			noClash(t, r, right, api.ErrRecord)
			noClash(t, right, r, api.ErrRecord)
		}
		noClash(t, r, r, api.ErrRecord)
		for _, other := range wrong() {
			noClash(t, r, other, api.ErrRecord)
		}
	}
}
