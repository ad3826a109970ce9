package leases

import (
	"math"
	"math/rand/v2"
	"testing"

	"corncrib/api"
)

// The ends of what tables may have, as the chapter and the limits tell them.
const (
	topItems = 1024
	topTick  = 1099511627776
	topStamp = 1125899906842624
	topLong  = 1048576
)

// Numbers that are no ticks, and no time stamps.
var (
	noTicks  = []int{math.MinInt, math.MinInt + 1, -topTick, -2, -1, topTick + 1, topTick + 2, topStamp, math.MaxInt - 1, math.MaxInt}
	noStamps = []int{math.MinInt, math.MinInt + 1, -topStamp, -2, -1, topStamp + 1, topStamp + 2, math.MaxInt - 1, math.MaxInt}
)

// wildNumbers are those at which something may go wrong.
var wildNumbers = []int{math.MinInt, math.MinInt + 1, -topStamp, -2, -1, 0, 1, 2, 3, topItems, topItems + 1, topLong, topLong + 1, topTick - 1, topTick, topTick + 1, topStamp - 1, topStamp, topStamp + 1, math.MaxInt - 1, math.MaxInt}

// is fails, unless a call tells this error.
func is(t *testing.T, what string, got, want api.Errno) {
	t.Helper()
	if got != want {
		t.Errorf("%s: %d; not %d", what, got, want)
	}
}

// table answers a new table of a length.
func table(t *testing.T, long int) *Table {
	t.Helper()
	x, e := New(long)
	if x == nil || e != api.OK {
		t.Fatalf("New(%d): %d", long, e)
	}
	return x
}

// take fails, unless a lease is taken, of this number.
func take(t *testing.T, x *Table, now, ts, want int) {
	t.Helper()
	if number, e := x.Take(now, ts); number != want || e != api.OK {
		t.Errorf("Take(%d, %d): %d, %d; not number %d", now, ts, number, e, want)
	}
}

// untaken fails, unless a Take is refused with this error, and the table has as many leases as ahead of it.
func untaken(t *testing.T, x *Table, now, ts int, want api.Errno) {
	t.Helper()
	n := x.Len()
	if number, e := x.Take(now, ts); number != 0 || e != want {
		t.Errorf("Take(%d, %d): %d, %d; not 0, %d", now, ts, number, e, want)
	}
	has(t, x, n)
}

// keep and end fail, unless each of these leases is kept, or ended.
func keep(t *testing.T, x *Table, now int, numbers ...int) {
	t.Helper()
	for _, n := range numbers {
		if e := x.Keep(now, n); e != api.OK {
			t.Errorf("Keep(%d, %d): %d", now, n, e)
		}
	}
}

func end(t *testing.T, x *Table, numbers ...int) {
	t.Helper()
	for _, n := range numbers {
		if e := x.End(n); e != api.OK {
			t.Errorf("End(%d): %d", n, e)
		}
	}
}

// runs fails, unless a lease is there, not over at a tick, and has this stamp.
func runs(t *testing.T, x *Table, now, number, want int) {
	t.Helper()
	if ts, e := x.Check(now, number); ts != want || e != api.OK {
		t.Errorf("Check(%d, %d): %d, %d; not %d", now, number, ts, e, want)
	}
}

// refused fails, unless Check and Keep of a lease both answer this error.
func refused(t *testing.T, x *Table, now, number int, want api.Errno) {
	t.Helper()
	if ts, e := x.Check(now, number); ts != 0 || e != want {
		t.Errorf("Check(%d, %d): %d, %d; not 0, %d", now, number, ts, e, want)
	}
	if e := x.Keep(now, number); e != want {
		t.Errorf("Keep(%d, %d): %d; not %d", now, number, e, want)
	}
}

// gone fails, unless there is no lease of any of these numbers.
func gone(t *testing.T, x *Table, numbers ...int) {
	t.Helper()
	for _, n := range numbers {
		for _, now := range []int{0, 10, topTick} {
			refused(t, x, now, n, api.ErrNone)
		}
		if e := x.End(n); e != api.ErrNone {
			t.Errorf("End(%d): %d; not %d", n, e, api.ErrNone)
		}
	}
}

// low fails, unless this is the least stamp at a tick.
func low(t *testing.T, x *Table, now, last, want int) {
	t.Helper()
	if ts, e := x.Low(now, last); ts != want || e != api.OK {
		t.Errorf("Low(%d, %d): %d, %d; not %d", now, last, ts, e, want)
	}
}

// noLow fails, unless Low is refused for want of a tick or a stamp.
func noLow(t *testing.T, x *Table, now, last int) {
	t.Helper()
	if ts, e := x.Low(now, last); ts != 0 || e != api.ErrRange {
		t.Errorf("Low(%d, %d): %d, %d; not 0, %d", now, last, ts, e, api.ErrRange)
	}
}

// has fails, unless there are so many leases.
func has(t *testing.T, x *Table, want int) {
	t.Helper()
	if n := x.Len(); n != want {
		t.Errorf("%d leases; not %d", n, want)
	}
}

// filled answers a table with leases of these ticks, numbers from 1 on, each of the stamp 1000 and its number together.
func filled(t *testing.T, long int, ticks ...int) *Table {
	t.Helper()
	x := table(t, long)
	for i, now := range ticks {
		take(t, x, now, 1001+i, i+1)
	}
	return x
}

// twin is a table by the chapter's words: leases by their numbers.
type twin struct {
	long, given int
	all         map[int]twinLease
}

type twinLease struct{ ts, until int }

func newTwin(long int) *twin { return &twin{long: long, all: map[int]twinLease{}} }

func within(n, most int) bool { return 0 <= n && n <= most }

func (w *twin) over(now, number int) bool { return w.all[number].until < now }

func (w *twin) take(now, ts int) (int, api.Errno) {
	if !within(now, topTick) || !within(ts, topStamp) {
		return 0, api.ErrRange
	}
	var out []int
	for number := range w.all {
		if w.over(now, number) {
			out = append(out, number)
		}
	}
	if len(w.all)-len(out) == topItems {
		return 0, api.ErrLong
	}
	for _, number := range out {
		delete(w.all, number)
	}
	w.given++
	w.all[w.given] = twinLease{ts, now + w.long}
	return w.given, api.OK
}

func (w *twin) keep(now, number int) api.Errno {
	_, e := w.check(now, number)
	if e == api.OK && now+w.long > w.all[number].until {
		w.all[number] = twinLease{w.all[number].ts, now + w.long}
	}
	return e
}

func (w *twin) end(number int) api.Errno {
	if _, ok := w.all[number]; !ok {
		return api.ErrNone
	}
	delete(w.all, number)
	return api.OK
}

func (w *twin) check(now, number int) (int, api.Errno) {
	l, ok := w.all[number]
	switch {
	case !within(now, topTick):
		return 0, api.ErrRange
	case !ok:
		return 0, api.ErrNone
	case w.over(now, number):
		return 0, api.ErrLease
	}
	return l.ts, api.OK
}

func (w *twin) low(now, last int) (int, api.Errno) {
	if !within(now, topTick) || !within(last, topStamp) {
		return 0, api.ErrRange
	}
	least := last
	for number, l := range w.all {
		if !w.over(now, number) && l.ts < least {
			least = l.ts
		}
	}
	return least, api.OK
}

// alike fails, unless a table tells what its twin tells, at a tick, of each number that was given out, and of some that were not.
func (w *twin) alike(t *testing.T, x *Table, now int) {
	t.Helper()
	has(t, x, len(w.all))
	for number := -1; number <= w.given+2; number++ {
		want, e := w.check(now, number)
		if ts, got := x.Check(now, number); ts != want || got != e {
			t.Fatalf("Check(%d, %d): %d, %d; not %d, %d", now, number, ts, got, want, e)
		}
	}
	w.lowAlike(t, x, now, topStamp)
}

// lowAlike fails, unless the least stamp is what the twin tells.
func (w *twin) lowAlike(t *testing.T, x *Table, now, last int) {
	t.Helper()
	want, e := w.low(now, last)
	if ts, got := x.Low(now, last); ts != want || got != e {
		t.Fatalf("Low(%d, %d): %d, %d; not %d, %d", now, last, ts, got, want, e)
	}
}

// maker makes what looks like chance, and is the same each time.
type maker struct{ *rand.Rand }

func newMaker(seed uint64) maker { return maker{rand.New(rand.NewPCG(seed, 17))} }

// wild answers a number at which something may go wrong.
func (m maker) wild() int { return wildNumbers[m.IntN(len(wildNumbers))] }

// step asks a table and its twin for one thing at a tick, of a stamp and a number.
func (m maker) step(t *testing.T, x *Table, w *twin, now, ts, number, takes int) {
	t.Helper()
	switch n := m.IntN(20); {
	case n < takes:
		want, e := w.take(now, ts)
		if got, f := x.Take(now, ts); got != want || f != e {
			t.Fatalf("Take(%d, %d): %d, %d; not %d, %d", now, ts, got, f, want, e)
		}
	case n < 16:
		if e, want := x.Keep(now, number), w.keep(now, number); e != want {
			t.Fatalf("Keep(%d, %d): %d; not %d", now, number, e, want)
		}
	case n < 18:
		if e, want := x.End(number), w.end(number); e != want {
			t.Fatalf("End(%d): %d; not %d", number, e, want)
		}
	default:
		w.lowAlike(t, x, now, ts)
	}
	has(t, x, len(w.all))
}
