package shelf

import (
	"math"
	"slices"
	"strings"
	"testing"

	"corncrib/api"
)

// Promise 12.2: what is read of a key at times below, at and above those of its versions.
func TestRead(t *testing.T) {
	s := of(t, ver("k", 2), ver("k", 5), gone("k", 9), ver("k", 12), gone("d", 1))
	for at := range 20 {
		switch {
		case at < 2:
			isRead(t, s, "k", at, api.CNone, 0, "")
		case at < 5:
			isRead(t, s, "k", at, api.CShard, 2, "k at 2")
		case at < 9:
			isRead(t, s, "k", at, api.CShard, 5, "k at 5")
		case at < 12:
			isRead(t, s, "k", at, api.CDead, 9, "")
		default:
			isRead(t, s, "k", at, api.CShard, 12, "k at 12")
		}
		for _, none := range []string{"", "K", "kk", "k\x00", "j", strings.Repeat("k", 40)} {
			isRead(t, s, none, at, api.CNone, 0, "")
		}
	}
	isRead(t, s, "d", 0, api.CNone, 0, "")
	isRead(t, s, "d", math.MaxInt, api.CDead, 1, "")
	isRead(t, s, "k", math.MaxInt, api.CShard, 12, "k at 12")
}

// Promise 12.2: an empty shard is a shard.
func TestReadEmpty(t *testing.T) {
	s := of(t, api.Record{Kind: api.RVer, Ts: 3, Key: "k"})
	isRead(t, s, "k", 3, api.CShard, 3, "")
}

// Promise 12.2: below the time that was swept, at it, and above it; that is told ahead of a key that is held.
func TestReadOver(t *testing.T) {
	s := of(t, ver("k", 2), ver("k", 9), ver("h", 2), prep(1, "", "h new"))
	isRead(t, s, "k", -1, api.COver, 0, "") // it is below 0, below which each shelf is swept
	isRead(t, s, "h", -1, api.COver, 0, "")
	isRead(t, s, "k", 0, api.CNone, 0, "")
	let(t, s, upTo(5))
	for _, key := range []string{"k", "h", "new", "none", ""} {
		for _, at := range []int{math.MinInt, -1, 0, 2, 4} {
			isRead(t, s, key, at, api.COver, 0, "")
		}
	}
	isRead(t, s, "k", 5, api.CShard, 2, "k at 2")
	isRead(t, s, "k", 9, api.CShard, 9, "k at 9")
	isRead(t, s, "none", 5, api.CNone, 0, "")
	for _, at := range []int{5, 6, math.MaxInt} {
		isRead(t, s, "h", at, api.CLocked, 0, "")
		isRead(t, s, "new", at, api.CLocked, 0, "")
	}
}

// Promise 12.2: a key that is held is locked at each time; one that is only watched is not.
func TestReadHeldOrWatched(t *testing.T) {
	s := of(t, ver("w", 2), ver("r", 2), gone("d", 2), prep(1, "r s", "-d w x"))
	for _, at := range []int{0, 1, 2, 50, math.MaxInt} {
		for _, key := range []string{"w", "x", "d"} {
			isRead(t, s, key, at, api.CLocked, 0, "")
		}
		isRead(t, s, "s", at, api.CNone, 0, "")
	}
	isRead(t, s, "r", 2, api.CShard, 2, "r at 2")
	let(t, s, do(1, 0))
	isRead(t, s, "w", 2, api.CShard, 2, "w at 2")
	isRead(t, s, "d", 2, api.CDead, 2, "")
	isRead(t, s, "x", 2, api.CNone, 0, "")
}

// Promise 12.2: the states of transactions that are there, and of those that are not.
func TestState(t *testing.T) {
	s := of(t, prep(1, "a", "b"), prep(2, "", ""), do(2, 8), prep(3, "", ""), do(3, 0), do(4, 9), do(5, 0), do(topTxn, 1))
	for _, x := range []struct{ txn, state, ts int }{
		{1, 1, 0}, {2, 2, 8}, {3, 3, 0}, {4, 2, 9}, {5, 3, 0}, {topTxn, 2, 1},
		{6, 0, 0}, {0, 0, 0}, {-1, 0, 0}, {math.MinInt, 0, 0}, {math.MaxInt, 0, 0},
	} {
		stands(t, s, x.txn, x.state, x.ts)
	}
}

// Promise 12.2: the record of a prepared one is the one that was applied, all of it.
func TestPrep(t *testing.T) {
	r := api.Record{Kind: api.RPrep, Txn: 7, Ts: topStamp, Coord: 15, Keys: []string{"a", "b\x00"}, Writes: []api.Write{{Key: "c", Shard: full(topShard)}, {Key: "d", Dead: true}, {Key: "e"}}}
	s := of(t, prep(1, "x", "y"), r, prep(9, "", ""))
	if got, ok := s.Prep(7); !ok || !same(got, r) {
		t.Error(ok, told(got))
	}
	if got, ok := s.Prep(9); !ok || !same(got, prep(9, "", "")) {
		t.Error(ok, told(got))
	}
	let(t, s, do(1, 3), do(9, 0))
	for _, txn := range []int{1, 9, 2, 0, -7, math.MaxInt} {
		if got, ok := s.Prep(txn); ok || !same(got, api.Record{}) {
			t.Error(txn, ok, told(got))
		}
	}
}

// Promise 12.2: those that are prepared, rising, in whatever order they came.
func TestOpen(t *testing.T) {
	s := New()
	if l := s.Open(); len(l) != 0 {
		t.Error(l)
	}
	for _, txn := range []int{500, 3, topTxn, 77, 1, 40} {
		let(t, s, prep(txn, "a", ""))
	}
	if l := s.Open(); !slices.Equal(l, []int{1, 3, 40, 77, 500, topTxn}) {
		t.Error(l)
	}
	let(t, s, do(40, 0), do(1, 5), do(90, 5))
	if l := s.Open(); !slices.Equal(l, []int{3, 77, 500, topTxn}) {
		t.Error(l)
	}
}

// Promise 12.2: the time of a key's last version, dead or not; 0, if it has none, be it held or watched.
func TestLast(t *testing.T) {
	s := of(t, ver("a", 2), ver("a", 7), ver("b", 3), gone("b", 9), prep(1, "r", "a w"))
	for key, want := range map[string]int{"a": 7, "b": 9, "r": 0, "w": 0, "": 0, "c": 0, strings.Repeat("a", 99): 0} {
		if ts := s.Last(key); ts != want {
			t.Errorf("%q: %d, not %d", key, ts, want)
		}
	}
	let(t, s, do(1, 12), upTo(10))
	for key, want := range map[string]int{"a": 12, "b": 0, "r": 0, "w": 12} {
		if ts := s.Last(key); ts != want {
			t.Errorf("%q: %d, not %d", key, ts, want)
		}
	}
}

// Promise 12.2: held is what is written, watched what is read; one key of many, and keys that are nobody's.
func TestHeld(t *testing.T) {
	s := of(t, prep(1, words(topWrite), ""), prep(2, "r x", "w -x"), ver("v", 3))
	for _, x := range []struct {
		key         string
		held, write bool
	}{
		{"w", true, true}, {"x", true, true}, {"r", false, true}, {keyOf(1), false, true}, {keyOf(8), false, true}, {keyOf(topWrite), false, true},
		{"v", false, false}, {"", false, false}, {"rr", false, false}, {"q", false, false}, {"ww", false, false}, {keyOf(0), false, false}, {keyOf(17), false, false},
	} {
		if s.Held(x.key, false) != x.held || s.Held(x.key, true) != x.write {
			t.Errorf("%q: %v, %v", x.key, s.Held(x.key, false), s.Held(x.key, true))
		}
	}
	let(t, s, do(2, 9))
	for _, key := range []string{"w", "x", "r"} {
		if s.Held(key, false) || s.Held(key, true) {
			t.Errorf("%q is held", key)
		}
	}
	let(t, s, do(1, 0))
	if s.Held(keyOf(1), true) {
		t.Error("watched by none")
	}
}

// Promise 12.2: a key that several watch is watched till the last one of them is ended.
func TestHeldBySeveral(t *testing.T) {
	s := of(t, prep(1, "k", ""), prep(2, "k", ""), prep(3, "k", ""))
	for txn := 1; txn <= 3; txn++ {
		if !s.Held("k", true) || s.Held("k", false) {
			t.Error(txn)
		}
		let(t, s, do(txn, txn%2*5))
	}
	if s.Held("k", true) {
		t.Error("watched by none")
	}
}

// Promise 12.2: the time below which was swept.
func TestSwept(t *testing.T) {
	s := New()
	for _, x := range []struct{ ts, want int }{{0, 0}, {1, 1}, {1, 1}, {7, 7}, {topStamp, topStamp}} {
		let(t, s, upTo(x.ts))
		if s.Swept() != x.want {
			t.Error(s.Swept(), x.want)
		}
	}
	refuse(t, s, api.ErrOld, upTo(9))
	if s.Swept() != topStamp {
		t.Error(s.Swept())
	}
}
