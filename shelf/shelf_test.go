package shelf

import (
	"slices"
	"strings"
	"testing"

	"corncrib/api"
)

// Promises 12.1, 12.2: the chapter's example.
func TestExample(t *testing.T) {
	s := New()
	for at := range 12 {
		isRead(t, s, "k", at, api.CNone, 0, "")
	}
	let(t, s, prep(5, "", "k"))
	for at := range 12 {
		isRead(t, s, "k", at, api.CLocked, 0, "")
	}
	let(t, s, do(5, 9))
	isRead(t, s, "k", 9, api.CShard, 9, "k of 5")
	isRead(t, s, "k", 8, api.CNone, 0, "")
	stands(t, s, 5, isDone, 9)
}

// Promise 12.1: a new shelf is one of nothing.
func TestNew(t *testing.T) {
	knows(t, New(), &twin{})
	if l := New().Records(); len(l) != 0 {
		t.Error(toldAll(l))
	}
}

// Promise 12.1: records that may not be, and those that are not of shelves, whatever the shelf knows.
func TestNoRecordOfShelves(t *testing.T) {
	for _, s := range []*Shelf{New(), of(t, prep(5, "a", "k"), prep(6, "", "m"), do(6, 3), do(7, 0), upTo(2))} {
		for txn := 5; txn < 9; txn++ {
			refuse(t, s, api.ErrRecord,
				api.Record{Kind: api.RGo, Txn: txn, Ts: 9}, api.Record{Kind: api.REnd, Txn: txn},
				api.Record{Kind: api.RDo, Txn: txn, Ts: -1}, api.Record{Kind: api.RDo, Txn: txn, Ts: topStamp + 1},
				api.Record{Kind: api.RDo, Txn: txn, Ts: 9, Coord: 1}, api.Record{Kind: api.RDo, Txn: txn, Ts: 9, Keys: []string{"a"}},
				prep(txn, "b a", ""), prep(txn, "", "b a"), prep(txn, "b b", ""), prep(txn, words(topWrite+1), ""), prep(txn, "", words(topWrite+1)),
				prep(txn, strings.Repeat("k", 33), ""), api.Record{Kind: api.RPrep, Txn: txn, Coord: 16}, api.Record{Kind: api.RPrep, Txn: txn, Key: "k"},
				api.Record{Kind: api.RPrep, Txn: txn, Writes: []api.Write{{Key: "k", Shard: full(topShard + 1)}}},
				api.Record{Kind: api.RPrep, Txn: txn, Writes: []api.Write{{Key: "k", Shard: "x", Dead: true}}})
		}
		refuse(t, s, api.ErrRecord,
			api.Record{}, api.Record{Kind: 8}, api.Record{Kind: -1}, api.Record{Kind: api.RUpto, Ts: 9},
			do(0, 9), do(-1, 9), do(topTxn+1, 9), prep(0, "", ""), prep(-5, "", ""), prep(topTxn+1, "", ""),
			ver("", 9), ver("k", 0), ver("k", -1), ver("k", topStamp+1), gone("k", 0), ver(strings.Repeat("k", 33), 9),
			api.Record{Kind: api.RVer, Ts: 9, Key: "k", Text: full(topShard + 1)}, api.Record{Kind: api.RVer, Ts: 9, Key: "k", Text: "x", Dead: true},
			upTo(-1), upTo(topStamp+1), api.Record{Kind: api.RSweep, Ts: 9, Txn: 1}, api.Record{Kind: api.RSweep, Ts: 9, Key: "k"})
	}
}

// Promise 12.1: records with as much, and as little, as there may be.
func TestEndsOfRecords(t *testing.T) {
	long := strings.Repeat("k", 32)
	s := of(t, prep(topTxn, words(topWrite), words(topWrite)), prep(1, "", ""), do(topTxn, topStamp), do(1, topStamp),
		api.Record{Kind: api.RVer, Ts: topStamp, Key: long, Text: full(topShard)}, ver("\x00", 1), upTo(topStamp), upTo(topStamp))
	isRead(t, s, long, topStamp, api.CShard, topStamp, full(topShard))
	isRead(t, s, "\x00", topStamp, api.CShard, 1, "\x00 at 1")
	isRead(t, s, keyOf(16), topStamp, api.CShard, topStamp, keyOf(16)+" of 1125899906842623")
	refuse(t, s, api.ErrOld, upTo(topStamp-1), upTo(0), ver(long, topStamp))
}

// Promise 12.1: a transaction that is prepared, or ended, with a time or refused, is not prepared again; one of whom nothing is known is.
func TestPrepThere(t *testing.T) {
	s := of(t, prep(1, "a", "b"), prep(2, "c", "d"), do(2, 9), prep(3, "e", "f"), do(3, 0), do(4, 9), do(5, 0))
	for txn := 1; txn <= 5; txn++ {
		refuse(t, s, api.ErrThere, prep(txn, "", ""), prep(txn, "x", "y"), prep(txn, "a", "b"), prep(txn, "b", "a"))
	}
	let(t, s, prep(6, "", "y"))
	for txn, state := range []int{isUnknown, isPrepared, isDone, isRefused, isDone, isRefused, isPrepared, isUnknown} {
		ts := 0
		if state == isDone {
			ts = 9
		}
		stands(t, s, txn, state, ts)
	}
}

// Promise 12.1: what another one holds is neither read nor written; what it watches is read, and not written.
func TestPrepLocked(t *testing.T) {
	one := of(t, prep(1, "r x", "w x"))
	for _, x := range []struct {
		reads, writes string
		want          api.Errno
	}{
		{"w", "", api.ErrLocked}, {"", "w", api.ErrLocked}, {"", "-w", api.ErrLocked}, {"", "r", api.ErrLocked}, {"", "-r", api.ErrLocked}, {"r", "", api.OK},
		{"x", "", api.ErrLocked}, {"", "x", api.ErrLocked}, {"r w", "", api.ErrLocked}, {"a w z", "", api.ErrLocked}, {"", "a r z", api.ErrLocked},
		{"", "a w z", api.ErrLocked}, {"a r z", "a z", api.OK}, {"r", "r", api.ErrLocked}, {"w", "w", api.ErrLocked}, {"", "", api.OK}, {"q s v y", "q s v y", api.OK},
		{"w\x00", "r\x00", api.OK}, {"rr", "ww", api.OK},
	} {
		s := one.Fork()
		r := prep(2, x.reads, x.writes)
		if x.want != api.OK {
			refuse(t, s, x.want, r)
			stands(t, s, 2, isUnknown, 0)
			continue
		}
		let(t, s, r)
		if got, ok := s.Prep(2); !ok || !same(got, r) {
			t.Error(told(got))
		}
	}
}

// Promise 12.1: what is dead of a transaction's writes holds its key as what is not.
func TestDeadHolds(t *testing.T) {
	s := of(t, prep(1, "", "-k"))
	refuse(t, s, api.ErrLocked, prep(2, "k", ""), prep(2, "", "k"), prep(2, "", "-k"))
}

// Promise 12.1: several prepared ones are looked at, and those that are ended are not any more.
func TestPrepLockedBySome(t *testing.T) {
	s := of(t, prep(1, "a", "b"), prep(2, "a c", "d"), prep(3, "", "e"))
	refuse(t, s, api.ErrLocked, prep(4, "", "a"), prep(4, "", "c"), prep(4, "e", ""), prep(4, "d", ""), prep(4, "b", ""))
	let(t, s, do(1, 5))
	refuse(t, s, api.ErrLocked, prep(4, "", "a"))
	let(t, s, do(2, 0))
	let(t, s, prep(4, "b d", "a c"))
	refuse(t, s, api.ErrLocked, prep(5, "e", ""), prep(5, "", "b"), prep(5, "", "d"), prep(5, "a", ""))
	let(t, s, do(3, 0), do(4, 6), prep(5, "a", "b c d e"))
}

// Promise 12.1: as many prepared ones as there may be, and one more.
func TestPrepFull(t *testing.T) {
	s := of(t, many(topItems-1, func(i int) api.Record { return prep(i, "", keyOf(i)) })...)
	let(t, s, prep(topItems, "all", ""))
	refuse(t, s, api.ErrLong, prep(topItems+1, "", ""), prep(topTxn, "x", "y"), prep(topItems+1, "all", ""))
	refuse(t, s, api.ErrThere, prep(1, "", ""), prep(topItems, "", ""))
	refuse(t, s, api.ErrLocked, prep(topItems+1, keyOf(1), ""), prep(topItems+1, "", keyOf(topItems-1)), prep(topItems+1, "", "all"))
	if l := s.Open(); len(l) != topItems || !slices.IsSorted(l) || l[0] != 1 || l[topItems-1] != topItems {
		t.Error(len(l))
	}
	let(t, s, do(3, 9), prep(topItems+1, "", keyOf(3)))
	refuse(t, s, api.ErrLong, prep(topItems+2, "", ""))
	let(t, s, do(4, 0), prep(topItems+2, "", ""))
	refuse(t, s, api.ErrLong, prep(topItems+3, "", ""))
}

// Promise 12.1: an ended one is there, with the same time; with another one it can't be done.
func TestDoEnded(t *testing.T) {
	s := of(t, prep(1, "a", "b"), do(1, 9), prep(2, "a", "b"), do(2, 0), do(3, 7), do(4, 0))
	refuse(t, s, api.ErrThere, do(1, 9), do(2, 0), do(3, 7), do(4, 0))
	refuse(t, s, api.ErrState, do(1, 0), do(1, 8), do(1, 10), do(2, 1), do(2, 9), do(3, 0), do(3, topStamp), do(4, 7))
	isRead(t, s, "b", 20, api.CShard, 9, "b of 1")
}

// Promise 12.1: a prepared one that is done: each of its writes is a version, and it holds and watches nothing any more.
func TestDoPrepared(t *testing.T) {
	s := of(t, ver("a", 3), ver("b", 4), ver("e", 8), prep(5, "b e", "a -b c -d"))
	let(t, s, do(5, 7))
	isRead(t, s, "a", 6, api.CShard, 3, "a at 3")
	isRead(t, s, "a", 7, api.CShard, 7, "a of 5")
	isRead(t, s, "b", 6, api.CShard, 4, "b at 4")
	isRead(t, s, "b", 7, api.CDead, 7, "")
	isRead(t, s, "c", 6, api.CNone, 0, "")
	isRead(t, s, "c", 7, api.CShard, 7, "c of 5")
	isRead(t, s, "d", 7, api.CDead, 7, "")
	isRead(t, s, "e", 9, api.CShard, 8, "e at 8")
	stands(t, s, 5, isDone, 7)
	if len(s.Open()) != 0 || s.Held("a", true) || s.Held("e", true) {
		t.Error(s.Open())
	}
}

// Promise 12.1: a prepared one that is refused leaves nothing but that.
func TestDoPreparedRefused(t *testing.T) {
	s := of(t, ver("a", 3), prep(5, "b", "a -c"), do(5, 0))
	isRead(t, s, "a", 9, api.CShard, 3, "a at 3")
	isRead(t, s, "c", 9, api.CNone, 0, "")
	stands(t, s, 5, isRefused, 0)
	if len(s.Open()) != 0 || s.Held("a", true) || s.Held("b", true) {
		t.Error(s.Open())
	}
	let(t, s, prep(6, "", "a b c"))
}

// Promise 12.1: a prepared one with a time that is not above the last of a key that it writes; that of one that it reads is no matter.
func TestDoOld(t *testing.T) {
	s := of(t, ver("b", 5), gone("d", 9), ver("r", 20), prep(1, "r", "a b c"), prep(2, "", "a2 b2 -d"))
	refuse(t, s, api.ErrOld, do(1, 1), do(1, 4), do(1, 5), do(2, 1), do(2, 8), do(2, 9))
	stands(t, s, 1, isPrepared, 0)
	stands(t, s, 2, isPrepared, 0)
	if !s.Held("a", false) || !s.Held("r", true) || s.Last("a") != 0 {
		t.Error("what was refused is not as it was")
	}
	let(t, s, do(1, 6), do(2, 10))
	isRead(t, s, "b", 6, api.CShard, 6, "b of 1")
	let(t, s, prep(3, "", ""), prep(4, "r", ""), do(3, 1), do(4, 1)) // they write nothing
}

// Promise 12.1: a prepared one with 0 is refused, whatever it writes.
func TestDoZeroOfAll(t *testing.T) {
	s := of(t, many(topItems, func(i int) api.Record { return ver("k", i) })...)
	let(t, s, prep(1, "", "k"))
	refuse(t, s, api.ErrLong, do(1, topItems+1))
	refuse(t, s, api.ErrOld, do(1, topItems), do(1, 1))
	let(t, s, do(1, 0))
	stands(t, s, 1, isRefused, 0)
}

// Promise 12.1: a prepared one that writes a key whose chain is full, ahead of others or behind them.
func TestDoFullChain(t *testing.T) {
	s := of(t, many(topItems, func(i int) api.Record { return ver("k", i) })...)
	let(t, s, prep(1, "", "a k z"))
	refuse(t, s, api.ErrLong, do(1, topItems+1), do(1, topStamp))
	if s.Last("a") != 0 || s.Last("z") != 0 || s.Last("k") != topItems {
		t.Error(s.Last("a"), s.Last("z"))
	}
	let(t, s, upTo(2), do(1, topItems+1))
	isRead(t, s, "k", topItems+1, api.CShard, topItems+1, "k of 1")
	isRead(t, s, "z", topItems+1, api.CShard, topItems+1, "z of 1")
	let(t, s, prep(2, "", "-k"))
	refuse(t, s, api.ErrLong, do(2, topItems+2))
}

// Promise 12.1: a prepared one that would make more keys than there may be, by one or by several.
func TestDoKeysFull(t *testing.T) {
	s := of(t, many(topItems-2, func(i int) api.Record { return ver(keyOf(i), 1) })...)
	let(t, s, prep(1, "x y", "a b -c"), prep(2, "", "d e"), prep(3, "", "-f"), prep(4, "", keyOf(1)+" "+keyOf(2)))
	refuse(t, s, api.ErrLong, do(1, 5))
	let(t, s, do(2, 5))
	refuse(t, s, api.ErrLong, do(1, 6), do(3, 6))
	let(t, s, do(4, 6))
	isRead(t, s, keyOf(2), 6, api.CShard, 6, keyOf(2)+" of 4")
	let(t, s, prep(5, "", "d e "+keyOf(9)), do(5, 7), do(3, 0))
	isRead(t, s, "d", 7, api.CShard, 7, "d of 5")
	stands(t, s, 1, isPrepared, 0)
}

// Promise 12.1: one that is not prepared is ended with its time, and leaves no version.
func TestDoUnknown(t *testing.T) {
	s := of(t, do(5, 9), do(6, 0), do(topTxn, topStamp))
	stands(t, s, 5, isDone, 9)
	stands(t, s, 6, isRefused, 0)
	stands(t, s, topTxn, isDone, topStamp)
	knows(t, s, &twin{ended: []outcome{{5, 9}, {6, 0}, {topTxn, topStamp}}})
}

// Promise 12.1: as many ended ones as there may be, and more: the oldest is forgotten, which is not the least one.
func TestEndedFull(t *testing.T) {
	w := &twin{}
	s := New()
	for i := range topItems {
		txn, ts := 5000-i, i%3*10
		if i%4 == 0 {
			let(t, s, prep(txn, "", "k"+keyOf(i)))
			w.apply(prep(txn, "", "k"+keyOf(i)))
		}
		let(t, s, do(txn, ts))
		w.apply(do(txn, ts))
	}
	knows(t, s, w)
	stands(t, s, 5000, isRefused, 0)
	stands(t, s, 4999, isDone, 10)
	refuse(t, s, api.ErrThere, do(5000, 0), prep(5000, "", ""), do(4999, 10))
	let(t, s, do(1, 0))
	stands(t, s, 5000, isUnknown, 0)
	stands(t, s, 4999, isDone, 10)
	let(t, s, do(2, 30))
	stands(t, s, 4999, isUnknown, 0)
	stands(t, s, 4998, isDone, 20)
	refuse(t, s, api.ErrThere, do(1, 0), do(2, 30), do(4998, 20))
	let(t, s, prep(5000, "", "n"), do(4999, 77), do(5000, 78)) // what is forgotten is as what never was
	stands(t, s, 5000, isDone, 78)
	stands(t, s, 4999, isDone, 77)
	stands(t, s, 4998, isUnknown, 0)
	stands(t, s, 4997, isUnknown, 0)
	stands(t, s, 4996, isDone, 10)
	if l := s.Records(); l[len(l)-1].Txn != 5000 || l[len(l)-topItems].Txn != 4996 {
		t.Error(toldAll(l[len(l)-topItems:]))
	}
	isRead(t, s, "n", 78, api.CShard, 78, "n of 5000")
}

// Promise 12.1: a version is added above the last one; also of a key that is held.
func TestVer(t *testing.T) {
	s := of(t, ver("k", 3), gone("k", 4), ver("k", 9), ver("a", 1), gone("b", 2))
	isRead(t, s, "k", 2, api.CNone, 0, "")
	isRead(t, s, "k", 3, api.CShard, 3, "k at 3")
	isRead(t, s, "k", 8, api.CDead, 4, "")
	isRead(t, s, "k", 9, api.CShard, 9, "k at 9")
	isRead(t, s, "b", 9, api.CDead, 2, "")
	refuse(t, s, api.ErrOld, ver("k", 1), ver("k", 3), ver("k", 8), ver("k", 9), gone("k", 9), gone("b", 2), gone("b", 1))
	let(t, s, ver("k", 10), ver("b", 3), prep(1, "", "k"), ver("k", 20))
	refuse(t, s, api.ErrOld, do(1, 20))
	let(t, s, do(1, 21))
	isRead(t, s, "k", 20, api.CShard, 20, "k at 20")
	isRead(t, s, "k", 21, api.CShard, 21, "k of 1")
}

// Promise 12.1: as many versions of a key as there may be, and one more.
func TestVerFullChain(t *testing.T) {
	s := of(t, many(topItems, func(i int) api.Record { return ver("k", i) })...)
	refuse(t, s, api.ErrLong, ver("k", topItems+1), gone("k", topStamp))
	refuse(t, s, api.ErrOld, ver("k", topItems), gone("k", 1))
	let(t, s, ver("l", 1))
}

// Promise 12.1: as many keys as there may be: none more, but versions of those that are there; a key that was swept empty makes room.
func TestVerKeysFull(t *testing.T) {
	s := of(t, many(topItems-1, func(i int) api.Record { return ver(keyOf(i), 3) })...)
	let(t, s, gone("k", 4))
	refuse(t, s, api.ErrLong, ver("l", 1), gone("l", 9), ver("l", topStamp))
	let(t, s, ver(keyOf(1), 4), gone(keyOf(2), 4))
	refuse(t, s, api.ErrOld, ver("k", 4), ver(keyOf(1), 4))
	let(t, s, upTo(3))
	refuse(t, s, api.ErrLong, ver("l", 1))
	let(t, s, upTo(4), ver("l", 1), ver("k", 1)) // two were dead at 4
	refuse(t, s, api.ErrLong, ver(keyOf(2), 9), ver("m", 1))
}

// Promise 12.1: a sweep below an earlier time is refused, below the same or a later one it is done.
func TestSweep(t *testing.T) {
	s := of(t, ver("a", 2), ver("a", 5), ver("a", 9), ver("b", 4), gone("b", 6), gone("c", 7), ver("d", 20))
	let(t, s, upTo(0), upTo(5))
	if s.Swept() != 5 {
		t.Error(s.Swept())
	}
	refuse(t, s, api.ErrOld, upTo(4), upTo(1), upTo(0))
	let(t, s, upTo(5))
	knows(t, s, &twin{versions: []row{
		{"a", api.Version{Ts: 5, Shard: "a at 5"}}, {"a", api.Version{Ts: 9, Shard: "a at 9"}},
		{"b", api.Version{Ts: 4, Shard: "b at 4"}}, {"b", api.Version{Ts: 6, Dead: true}},
		{"c", api.Version{Ts: 7, Dead: true}}, {"d", api.Version{Ts: 20, Shard: "d at 20"}}}, swept: 5})
	let(t, s, upTo(8))
	knows(t, s, &twin{versions: []row{
		{"a", api.Version{Ts: 5, Shard: "a at 5"}}, {"a", api.Version{Ts: 9, Shard: "a at 9"}},
		{"d", api.Version{Ts: 20, Shard: "d at 20"}}}, swept: 8})
	refuse(t, s, api.ErrOld, upTo(7))
}

// Promise 12.1: a key that is swept empty is there no more: its last one is 0, and versions of earlier times may come.
func TestSweptEmpty(t *testing.T) {
	s := of(t, ver("k", 3), gone("k", 5), upTo(5))
	if s.Last("k") != 0 || len(s.Records()) != 1 {
		t.Error(toldAll(s.Records()))
	}
	isRead(t, s, "k", 5, api.CNone, 0, "")
	let(t, s, ver("k", 1), ver("k", 2))
	isRead(t, s, "k", 5, api.CShard, 2, "k at 2")
	let(t, s, upTo(5)) // the same again takes away what came since
	knows(t, s, &twin{versions: []row{{"k", api.Version{Ts: 2, Shard: "k at 2"}}}, swept: 5})
}

// Promise 12.1: a sweep lets those that are prepared, and those that are ended, be.
func TestSweepLetsTransactionsBe(t *testing.T) {
	s := of(t, ver("k", 3), prep(1, "a", "k"), do(2, 4), do(3, 0), upTo(100))
	stands(t, s, 1, isPrepared, 0)
	stands(t, s, 2, isDone, 4)
	stands(t, s, 3, isRefused, 0)
	let(t, s, do(1, 50)) // below what was swept, and above the last version
	isRead(t, s, "k", 100, api.CShard, 50, "k of 1")
}

// R1, promise 12.1: of several faults the one that the chapter names first is told.
func TestSeveralFaults(t *testing.T) {
	s := of(t, many(topItems, func(i int) api.Record { return ver("k", i) })...)
	let(t, s, many(topItems-2, func(i int) api.Record { return ver(keyOf(i), 50) })...)
	let(t, s, do(7000, 5), do(7001, 0), prep(1, "r", "a b k"), prep(2, "", "a1 b1 "+keyOf(5)), prep(3, "", "c "+keyOf(6)))
	// a full chain, too many keys, and a time that is not above the last
	refuse(t, s, api.ErrOld, do(1, topItems), do(1, 3), do(2, 50), do(2, 49), do(3, 50))
	refuse(t, s, api.ErrLong, do(1, topItems+1), do(2, 51))
	refuse(t, s, api.ErrOld, ver("k", topItems), ver(keyOf(1), 50))
	let(t, s, do(3, 51))
	refuse(t, s, api.ErrLong, ver("k", topItems+1), ver("new", 1))
	// prepared or ended, locked, and too many of them
	let(t, s, many(topItems-2, func(i int) api.Record { return prep(100+i, "", "") })...)
	refuse(t, s, api.ErrThere, prep(1, "k", "k"), prep(2, "r", "r"), prep(7000, "k", "r"), prep(7001, "", "r"), prep(3, "", ""), prep(101, "k", ""))
	refuse(t, s, api.ErrLocked, prep(4, "k", ""), prep(4, "", "r"))
	refuse(t, s, api.ErrLong, prep(4, "r", ""))
	// what may not be, of a transaction that is there
	refuse(t, s, api.ErrRecord, prep(1, "k k", "k"), prep(7000, "b a", ""), api.Record{Kind: api.RDo, Txn: 7000, Ts: 5, Key: "k"}, api.Record{Kind: api.RGo, Txn: 7000, Ts: 5})
}

// Promise 12.1: a full chain of one key, and an old time of another one that stands behind it, or ahead of it.
func TestOldAheadOfLong(t *testing.T) {
	for _, old := range []string{"a", "z"} {
		s := of(t, many(topItems, func(i int) api.Record { return ver("k", i) })...)
		let(t, s, ver(old, 5000), prep(1, "", strings.Join(slices.Sorted(slices.Values([]string{"k", old})), " ")))
		refuse(t, s, api.ErrOld, do(1, 2000), do(1, 5000))
		refuse(t, s, api.ErrLong, do(1, 5001))
	}
}

// Promises 12.1, 12.2, 12.3: whatever is applied, a shelf tells what the chapter's words make of it.
func TestAsByWords(t *testing.T) {
	m := newMaker(1)
	told := map[api.Errno]int{}
	for range 250 {
		s, w := New(), &twin{}
		for range 40 {
			r := m.record()
			e := s.Apply(r)
			if want := w.apply(r); e != want {
				t.Fatalf("%s: refused %d, not %d", toldAll([]api.Record{r}), e, want)
			}
			told[e]++
			if e != api.OK || m.IntN(4) == 0 {
				knows(t, s, w)
			}
		}
		if t.Failed() {
			return
		}
	}
	for _, e := range []api.Errno{api.OK, api.ErrRecord, api.ErrThere, api.ErrLocked, api.ErrState, api.ErrOld} {
		if told[e] < 50 {
			t.Error(e, "was told but", told[e], "times")
		}
	}
}
