package due

import (
	"math"
	"math/rand/v2"
	"testing"

	"corncrib/api"
)

// The ends of what queues may have, as the limits tell them.
const (
	topItems = 1024
	topTick  = 1099511627776
)

// wildNumbers are those at which something may go wrong.
var wildNumbers = []int{math.MinInt, math.MinInt + 1, -1 << 40, -2, -1, 0, 1, 2, 3, topItems, topItems + 1, topTick - 1, topTick, topTick + 1, math.MaxInt - 1, math.MaxInt}

// is fails, unless a call tells this error.
func is(t *testing.T, what string, got, want api.Errno) {
	t.Helper()
	if got != want {
		t.Errorf("%s: %d; not %d", what, got, want)
	}
}

// put fails, unless a task is put, and is told this number.
func put(t *testing.T, q *Queue, at, urgency, id, want int) {
	t.Helper()
	if number, e := q.Put(at, urgency, id); number != want || e != api.OK {
		t.Errorf("Put(%d, %d, %d): %d, %d; not number %d", at, urgency, id, number, e, want)
	}
}

// unput fails, unless a task is refused with this error.
func unput(t *testing.T, q *Queue, at int, want api.Errno) {
	t.Helper()
	if number, e := q.Put(at, 1, 2); number != 0 || e != want {
		t.Errorf("Put(%d): %d, %d; not 0, %d", at, number, e, want)
	}
}

// takes fails, unless these are taken, one after the other.
func takes(t *testing.T, q *Queue, want ...int) {
	t.Helper()
	for i, x := range want {
		if id, ok := q.Take(); id != x || !ok {
			t.Errorf("Take %d: %d, %v; not %d", i, id, ok, x)
		}
	}
}

// none fails, unless nothing is there to be taken.
func none(t *testing.T, q *Queue) {
	t.Helper()
	if id, ok := q.Take(); id != 0 || ok {
		t.Errorf("Take: %d, %v; not 0, false", id, ok)
	}
}

// dropped and undropped fail, unless the task of each of these numbers is dropped, or is not there.
func dropped(t *testing.T, q *Queue, numbers ...int) {
	t.Helper()
	for _, n := range numbers {
		if e := q.Drop(n); e != api.OK {
			t.Errorf("Drop(%d): %d", n, e)
		}
	}
}

func undropped(t *testing.T, q *Queue, numbers ...int) {
	t.Helper()
	for _, n := range numbers {
		if e := q.Drop(n); e != api.ErrNone {
			t.Errorf("Drop(%d): %d; not %d", n, e, api.ErrNone)
		}
	}
}

// goes fails, unless a queue goes to a tick.
func goes(t *testing.T, q *Queue, to int) {
	t.Helper()
	if e := q.Go(to); e != api.OK || q.Now() != to {
		t.Errorf("Go(%d): %d, and the tick is %d", to, e, q.Now())
	}
}

// stays fails, unless a queue does not go to a tick.
func stays(t *testing.T, q *Queue, to int) {
	t.Helper()
	was := q.Now()
	if e := q.Go(to); e != api.ErrRange || q.Now() != was {
		t.Errorf("Go(%d) at %d: %d, and the tick is %d", to, was, e, q.Now())
	}
}

// stands fails, unless a queue has this tick, so many tasks, and this least tick of them all, if there are any.
func stands(t *testing.T, q *Queue, now, n, next int) {
	t.Helper()
	if q.Now() != now || q.Len() != n {
		t.Errorf("at %d, %d tasks; not at %d, %d", q.Now(), q.Len(), now, n)
	}
	if at, ok := q.Next(); at != next || ok != (n > 0) {
		t.Errorf("at %d, %d tasks, Next: %d, %v; not %d", now, n, at, ok, next)
	}
}

// twin is a queue by the chapter's words: all tasks in a list, in the order in which they were put.
type twin struct {
	now, puts int
	list      []twinTask
}

type twinTask struct{ at, urgency, id, number int }

func (w *twin) put(at, urgency, id int) (int, api.Errno) {
	if at < 0 || at > topTick {
		return 0, api.ErrRange
	}
	if len(w.list) == topItems {
		return 0, api.ErrLong
	}
	w.puts++
	w.list = append(w.list, twinTask{at, urgency, id, w.puts})
	return w.puts, api.OK
}

// first answers where the first task of those that are due stands, and -1, if there is none.
func (w *twin) first() int {
	best := -1
	for i, x := range w.list {
		if x.at > w.now {
			continue
		}
		if best < 0 || x.urgency > w.list[best].urgency || x.urgency == w.list[best].urgency && x.at < w.list[best].at {
			best = i
		}
	}
	return best
}

func (w *twin) without(i int) {
	var left []twinTask
	for j, x := range w.list {
		if j != i {
			left = append(left, x)
		}
	}
	w.list = left
}

func (w *twin) take() (int, bool) {
	i := w.first()
	if i < 0 {
		return 0, false
	}
	id := w.list[i].id
	w.without(i)
	return id, true
}

func (w *twin) drop(number int) api.Errno {
	for i, x := range w.list {
		if x.number == number {
			w.without(i)
			return api.OK
		}
	}
	return api.ErrNone
}

func (w *twin) goTo(to int) api.Errno {
	if to < w.now || to > topTick {
		return api.ErrRange
	}
	w.now = to
	return api.OK
}

func (w *twin) next() int {
	least := 0
	for i, x := range w.list {
		if i == 0 || x.at < least {
			least = x.at
		}
	}
	return least
}

// alike fails, unless a queue tells of itself what its twin tells.
func (w *twin) alike(t *testing.T, q *Queue) {
	t.Helper()
	stands(t, q, w.now, len(w.list), w.next())
}

// maker makes what looks like chance, and is the same each time.
type maker struct{ *rand.Rand }

func newMaker(seed uint64) maker { return maker{rand.New(rand.NewPCG(seed, 14))} }

// number answers one of a few, and now and then one at which something may go wrong.
func (m maker) number(most int) int {
	if m.IntN(12) == 0 {
		return wildNumbers[m.IntN(len(wildNumbers))]
	}
	return m.IntN(2*most+1) - most
}

// tick answers one close to another one, and now and then a wild one.
func (m maker) tick(now, most int) int {
	if m.IntN(20) == 0 {
		return wildNumbers[m.IntN(len(wildNumbers))]
	}
	return now + m.number(most)
}

// step does one thing with a queue, and the same with its twin.
func (m maker) step(t *testing.T, q *Queue, w *twin, puts int) {
	t.Helper()
	switch n := m.IntN(20); {
	case n < puts:
		at, urgency, id := m.tick(w.now, 9), m.number(2), m.number(99)
		want, e := w.put(at, urgency, id)
		if number, got := q.Put(at, urgency, id); number != want || got != e {
			t.Fatalf("Put(%d, %d, %d): %d, %d; not %d, %d", at, urgency, id, number, got, want, e)
		}
	case n < 15:
		want, there := w.take()
		if id, ok := q.Take(); id != want || ok != there {
			t.Fatalf("Take: %d, %v; not %d, %v", id, ok, want, there)
		}
	case n < 18:
		number := w.puts - m.IntN(30)
		if m.IntN(4) == 0 {
			number = m.number(5)
		}
		is(t, "drop", q.Drop(number), w.drop(number))
	default:
		to := w.now + m.IntN(4) - 1
		if m.IntN(30) == 0 {
			to = wildNumbers[m.IntN(len(wildNumbers))]
		}
		is(t, "go", q.Go(to), w.goTo(to))
	}
	w.alike(t, q)
}
