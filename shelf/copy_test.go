package shelf

import (
	"slices"
	"testing"

	"corncrib/api"
)

// listed fails, unless a shelf has just these records.
func listed(t *testing.T, s *Shelf, want ...api.Record) {
	t.Helper()
	if got, want := toldAll(s.Records()), toldAll(want); got != want {
		t.Errorf("%s; not %s", got, want)
	}
}

// again fails, unless a new shelf takes all records of this one, and knows the same, then.
func again(t *testing.T, s *Shelf, w *twin) {
	t.Helper()
	other := of(t, s.Records()...)
	knows(t, other, w)
	listed(t, other, s.Records()...)
}

// Promise 12.3: the records of shelves of nothing, of one thing, and of several of each kind.
func TestRecords(t *testing.T) {
	listed(t, New())
	for _, r := range []api.Record{ver("k", 3), gone("k", 3), do(5, 9), do(5, 0), prep(5, "a", "b -c"), prep(5, "", ""), upTo(4)} {
		listed(t, of(t, r), r)
	}
	listed(t, of(t, upTo(0)))
	listed(t, of(t, prep(9, "z", "-y"), prep(2, "x", ""), ver("k", 5), ver("b", 6), do(8, 3), prep(4, "", "c k"), ver("k\x00", 1), do(7, 0), upTo(2), do(4, 7), gone("k", 8), do(3, 1)),
		upTo(2), ver("b", 6), api.Record{Kind: api.RVer, Ts: 7, Key: "c", Text: "c of 4"},
		ver("k", 5), api.Record{Kind: api.RVer, Ts: 7, Key: "k", Text: "k of 4"}, gone("k", 8), ver("k\x00", 1),
		do(8, 3), do(7, 0), do(4, 7), do(3, 1), prep(2, "x", ""), prep(9, "z", "-y"))
}

// Promise 12.3: what is refused, and what is swept away, is not among the records.
func TestRecordsOfWhatIs(t *testing.T) {
	s := of(t, ver("a", 1), ver("a", 2), gone("b", 2), prep(1, "", "a"), upTo(2), do(1, 0))
	s.Apply(do(1, 5))
	s.Apply(ver("a", 2))
	s.Apply(upTo(1))
	s.Apply(api.Record{Kind: api.RUpto, Ts: 9})
	listed(t, s, upTo(2), ver("a", 2), do(1, 0))
}

// Promise 12.3: a fork has the same, and both go their own ways, by records of each kind, and so do forks of forks.
func TestFork(t *testing.T) {
	ways := [][]api.Record{
		{do(1, 9)}, {do(1, 0)}, {prep(3, "x", "y")}, {ver("k", 20)}, {gone("new", 1)}, {upTo(6)}, {do(50, 3)}, {do(50, 0)},
		{do(1, 9), do(2, 10), upTo(10), prep(3, "", "a b k")}, {ver("k", 6), ver("k", 7), upTo(7)},
	}
	start := []api.Record{ver("k", 2), ver("k", 5), gone("a", 4), prep(1, "r", "b"), prep(2, "", "-k"), do(8, 3), do(9, 0), upTo(3)}
	for i, one := range ways {
		for _, other := range ways {
			w, s := &twin{}, of(t, start...)
			for _, r := range start {
				w.apply(r)
			}
			f := s.Fork()
			v := w.fork()
			knows(t, f, w)
			let(t, f, one...)
			knows(t, s, w)
			let(t, s, other...)
			for _, r := range one {
				v.apply(r)
			}
			knows(t, f, v)
			for _, r := range other {
				w.apply(r)
			}
			knows(t, s, w)
			knows(t, f.Fork(), v)
		}
		if t.Failed() {
			t.Fatal(i)
		}
	}
	knows(t, New().Fork(), &twin{})
}

// Promise 12.3: forks of a shelf that is full of all: each of them can do what it could, and no more.
func TestForkOfFull(t *testing.T) {
	s := of(t, many(topItems, func(i int) api.Record { return ver("k", i) })...)
	let(t, s, many(topItems-1, func(i int) api.Record { return ver(keyOf(i), i) })...)
	let(t, s, many(topItems, func(i int) api.Record { return do(i, i%2*9) })...)
	let(t, s, many(topItems, func(i int) api.Record { return prep(10000+i, "", "") })...)
	f := s.Fork()
	listed(t, f, s.Records()...)
	for _, x := range []*Shelf{f, s} {
		refuse(t, x, api.ErrLong, ver("k", 5000), ver("new", 1), prep(1<<40, "", ""))
		refuse(t, x, api.ErrThere, do(1, 9))
		let(t, x, do(10001, 5), prep(1, "", "k "+keyOf(5)))
		refuse(t, x, api.ErrLong, do(1, 6000))
		stands(t, x, 1, isPrepared, 0)
		stands(t, x, 2, isRefused, 0)
	}
}

// Promises 12.3, 12.4: shelves and forks that go their ways as if by chance; to each one's records a new shelf comes to know the same.
func TestForksAsByWords(t *testing.T) {
	m := newMaker(2)
	for range 60 {
		shelves, twins := []*Shelf{New()}, []*twin{{}}
		for range 60 {
			at := m.IntN(len(shelves))
			r := m.record()
			if e, want := shelves[at].Apply(r), twins[at].apply(r); e != want {
				t.Fatalf("%s: refused %d, not %d", told(r), e, want)
			}
			if m.IntN(15) == 0 {
				shelves, twins = append(shelves, shelves[at].Fork()), append(twins, twins[at].fork())
			}
		}
		for i, s := range shelves {
			knows(t, s, twins[i])
			again(t, s, twins[i])
		}
		if t.Failed() {
			return
		}
	}
}

// Promise 12.4: a new shelf to which the records are applied goes on as the one that they came from.
func TestRecordsGoOn(t *testing.T) {
	m := newMaker(3)
	for range 150 {
		s := New()
		for range m.IntN(50) {
			s.Apply(m.record())
		}
		other := of(t, s.Records()...)
		for range 30 {
			r := m.record()
			if e, want := other.Apply(r), s.Apply(r); e != want {
				t.Fatalf("%s: refused %d, not %d", told(r), e, want)
			}
		}
		listed(t, other, s.Records()...)
	}
}

// Promise 12.4: records of a shelf with as many keys, ended and prepared ones as there may be, and with as many versions of a key.
func TestRecordsOfFull(t *testing.T) {
	s := of(t, many(topItems, func(i int) api.Record { return ver("k", i) })...)
	let(t, s, many(topItems-1, func(i int) api.Record { return gone(keyOf(i), i) })...)
	let(t, s, many(topItems+5, func(i int) api.Record { return do(2000-i, i%2*9) })...)
	let(t, s, many(topItems, func(i int) api.Record { return prep(20000-i, "all", keyOf(i)) })...)
	l := s.Records()
	if len(l) != 4*topItems-1 {
		t.Error(len(l))
	}
	other := of(t, l...)
	listed(t, other, l...)
	stands(t, other, 1995, isUnknown, 0)
	stands(t, other, 1994, isRefused, 0)
	refuse(t, other, api.ErrLong, prep(1<<40, "", ""), ver("k", 5000), ver("new", 1))
}

// Promise 12.4: what came below the time that was swept, behind the sweep, is known again.
func TestRecordsBelowSweep(t *testing.T) {
	s, w := New(), &twin{}
	for _, r := range []api.Record{upTo(10), gone("a", 2), ver("a", 3), gone("a", 4), prep(1, "", "k"), do(1, 5), gone("k", 6)} {
		let(t, s, r)
		w.apply(r)
		knows(t, s, w)
		again(t, s, w)
	}
	isRead(t, s, "k", 9, api.COver, 0, "")
	isRead(t, s, "k", 10, api.CDead, 6, "")
}

// stays tells whether a record, by promise 12.4, lets what is read of a time be, if no transaction holds the key.
func stays(r api.Record, time int) bool {
	switch r.Kind {
	case api.RSweep:
		return r.Ts <= time
	case api.RDo:
		return r.Ts == 0 || r.Ts > time
	}
	return r.Kind != api.RVer || r.Ts > time // a version that is added as of an earlier time is one that is ended with it
}

// Promise 12.4: what is read of a time stays, whatever comes behind it; what is dead counts as what is not there, as chapter 11 says.
func TestReadStays(t *testing.T) {
	m := newMaker(4)
	seen := 0
	for range 500 {
		s := New()
		for range m.IntN(40) {
			s.Apply(m.record())
		}
		key, time := []string{"a", "b", "k", "kk", "z"}[m.IntN(5)], s.Swept()+m.IntN(6)
		if s.Held(key, false) {
			continue
		}
		code, v := s.Read(key, time)
		for range 40 {
			r := m.record()
			if !stays(r, time) {
				continue
			}
			s.Apply(r)
			if s.Held(key, false) {
				isRead(t, s, key, time, api.CLocked, 0, "")
				continue
			}
			is, x := s.Read(key, time)
			if code != api.CShard && (is == api.CNone || is == api.CDead) {
				seen++
				continue
			}
			if is != code || x != v {
				t.Fatalf("%s: %q at %d: %d, %v; not %d, %v", told(r), key, time, is, x, code, v)
			}
			seen++
		}
	}
	if seen < 3000 {
		t.Error("looked at but", seen)
	}
}

// Promise 12.4: what is read of a time that is not swept stays through the commit of another one, from ahead of it to its end.
func TestReadStaysThroughCommit(t *testing.T) {
	s := of(t, ver("k", 3))
	isRead(t, s, "k", 5, api.CShard, 3, "k at 3")
	let(t, s, prep(1, "", "k"))
	isRead(t, s, "k", 5, api.CLocked, 0, "")
	f := s.Fork()
	let(t, s, do(1, 6))
	let(t, f, do(1, 0))
	for _, x := range []*Shelf{s, f} {
		isRead(t, x, "k", 5, api.CShard, 3, "k at 3")
		let(t, x, upTo(5))
		isRead(t, x, "k", 5, api.CShard, 3, "k at 3")
	}
	isRead(t, s, "k", 6, api.CShard, 6, "k of 1")
	isRead(t, f, "k", 6, api.CShard, 3, "k at 3")
	if l := []int{s.Last("k"), f.Last("k")}; !slices.Equal(l, []int{6, 3}) {
		t.Error(l)
	}
}
