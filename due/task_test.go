package due

import (
	"math"
	"testing"

	"corncrib/api"
)

// The chapter's example.
func TestExample(t *testing.T) {
	q := New()
	put(t, q, 5, 1, 7, 1)
	put(t, q, 3, 1, 8, 2)
	put(t, q, 4, 9, 9, 3)
	goes(t, q, 5)
	takes(t, q, 9, 8, 7)
	none(t, q)
}

// Promise 14.1: a new queue has no task.
func TestNew(t *testing.T) {
	q := New()
	stands(t, q, 0, 0, 0)
	none(t, q)
	undropped(t, q, 0, 1, -1)
	stands(t, q, 0, 0, 0)
	other := New()
	put(t, other, 0, 1, 2, 1)
	stands(t, q, 0, 0, 0)
	none(t, q)
}

// Promise 14.1: at which ticks tasks may be put.
func TestPutTicks(t *testing.T) {
	for _, now := range []int{0, 1, 7, topTick - 1, topTick} {
		for _, at := range append([]int{4, 5, 6, 7, 8}, wildNumbers...) {
			q := New()
			goes(t, q, now)
			if at < 0 || at > topTick {
				unput(t, q, at, api.ErrRange)
				stands(t, q, now, 0, 0)
				put(t, q, 0, 1, 2, 1)
				continue
			}
			put(t, q, at, 3, 4, 1)
			stands(t, q, now, 1, at)
			if at > now {
				none(t, q)
				goes(t, q, at)
			}
			takes(t, q, 4)
			none(t, q)
			stands(t, q, max(now, at), 0, 0)
		}
	}
}

// Promise 14.1: a task at the queue's own tick, or at one that has passed, is due at once; one behind it is not.
func TestPutAndTickThere(t *testing.T) {
	q := New()
	goes(t, q, 10)
	put(t, q, 11, 5, 1, 1)
	put(t, q, 10, 5, 2, 2)
	put(t, q, 9, 5, 3, 3)
	put(t, q, 0, 5, 4, 4)
	takes(t, q, 4, 3, 2)
	none(t, q)
	goes(t, q, 11)
	takes(t, q, 1)
}

// Promise 14.1: urgencies and ids are any numbers.
func TestAnyUrgencyAndId(t *testing.T) {
	q := New()
	for i, x := range wildNumbers {
		put(t, q, 0, x, x, i+1)
	}
	for i := range wildNumbers {
		takes(t, q, wildNumbers[len(wildNumbers)-1-i])
	}
	none(t, q)
	for _, a := range wildNumbers { // two of them, in each order
		for _, b := range wildNumbers {
			q := New()
			put(t, q, 1, a, 1, 1)
			put(t, q, 1, b, 2, 2)
			goes(t, q, 1)
			if a >= b {
				takes(t, q, 1, 2)
			} else {
				takes(t, q, 2, 1)
			}
			none(t, q)
		}
	}
	q = New()
	put(t, q, 0, 1, 7, 1)
	put(t, q, 0, 2, 7, 2) // an id may be there twice
	put(t, q, 0, 3, 7, 3)
	takes(t, q, 7, 7, 7)
	none(t, q)
}

// Promise 14.1: the more urgent one comes first; of the same urgency the earlier one; of the same tick too the one that was put first; in whichever order they are put.
func TestTakeOrder(t *testing.T) {
	type x struct{ at, urgency, id int }
	l := []x{{9, 5, 0}, {2, 4, 1}, {3, 4, 2}, {3, 4, 3}, {3, 4, 4}, {1, 0, 5}, {9, 0, 6}, {0, -7, 7}, {0, math.MinInt, 8}}
	for step := 1; step < len(l); step++ {
		for from := range l {
			if step%3 == 0 {
				continue // that order would not have all
			}
			for _, now := range []int{0, 9} { // whether they are put ahead of their ticks or behind them
				q := New()
				goes(t, q, now)
				var same []int
				for i := range l {
					y := l[(from+i*step)%len(l)]
					put(t, q, y.at, y.urgency, y.id, i+1)
					if y.at == 3 {
						same = append(same, y.id)
					}
				}
				goes(t, q, 9)
				takes(t, q, 0, 1)
				takes(t, q, same...)
				takes(t, q, 5, 6, 7, 8)
				none(t, q)
			}
		}
	}
}

// Promise 14.1: a task that comes later, and is more urgent, goes ahead of those that are due already.
func TestTakeBetween(t *testing.T) {
	q := New()
	put(t, q, 1, 1, 1, 1)
	put(t, q, 2, 9, 2, 2)
	put(t, q, 1, 3, 3, 3)
	none(t, q)
	goes(t, q, 1)
	takes(t, q, 3)
	goes(t, q, 2)
	takes(t, q, 2)
	put(t, q, 2, 4, 4, 4)
	put(t, q, 0, 1, 5, 5)
	put(t, q, 2, 1, 6, 6)
	takes(t, q, 4, 5, 1, 6)
	none(t, q)
	stands(t, q, 2, 0, 0)
}

// Promise 14.1: with tasks none of which is due nothing is taken, and they stay.
func TestTakeNothingDue(t *testing.T) {
	q := New()
	put(t, q, 5, 1, 1, 1)
	put(t, q, 6, 2, 2, 2)
	for now := range 5 {
		goes(t, q, now)
		none(t, q)
		stands(t, q, now, 2, 5)
	}
	goes(t, q, 5)
	takes(t, q, 1)
	none(t, q)
	stands(t, q, 5, 1, 6)
}

// filled answers a queue of so many tasks, each second of which is due.
func filled(t *testing.T, n int) *Queue {
	t.Helper()
	q := New()
	for i := range n {
		put(t, q, i%2*10, i%7, i, i+1)
	}
	stands(t, q, 0, n, 0)
	return q
}

// Promise 14.1: as many tasks as there may be, and one more; the number that is not told is the next one's. A tick that may not be is told ahead of that.
func TestPutFull(t *testing.T) {
	q := filled(t, topItems)
	for _, at := range []int{0, 5, topTick} {
		unput(t, q, at, api.ErrLong)
	}
	for _, at := range []int{-1, topTick + 1, math.MinInt, math.MaxInt} {
		unput(t, q, at, api.ErrRange)
	}
	stands(t, q, 0, topItems, 0)
	goes(t, q, 20) // all are due: they are as many
	unput(t, q, 30, api.ErrLong)
	stands(t, q, 20, topItems, 0)
	for range topItems {
		if _, ok := q.Take(); !ok {
			t.Fatal("not all are there")
		}
	}
	none(t, q)
	put(t, q, 0, 0, 1, topItems+1)
}

// Promise 14.1: there is room again behind a Take, and behind a Drop, for as many as went.
func TestRoomAgain(t *testing.T) {
	q := filled(t, topItems)
	takes(t, q, 6)
	put(t, q, 3, 0, 1, topItems+1)
	unput(t, q, 3, api.ErrLong)
	dropped(t, q, 2) // waits
	put(t, q, 3, 0, 2, topItems+2)
	unput(t, q, 3, api.ErrLong)
	dropped(t, q, 1) // is due
	put(t, q, 3, 0, 3, topItems+3)
	unput(t, q, 3, api.ErrLong)
	undropped(t, q, 1, 2, 7)
	unput(t, q, 3, api.ErrLong)
	dropped(t, q, topItems+2, topItems, 4)
	for i := range 3 {
		put(t, q, 3, 0, 9, topItems+4+i)
	}
	unput(t, q, 3, api.ErrLong)
	stands(t, q, 0, topItems, 0)
}

// Promise 14.1: each task is dropped once, whether it waits or is due; what was taken, or was never put, is not there.
func TestDrop(t *testing.T) {
	q := New()
	for i := range 6 {
		put(t, q, i, -i, 10+i, i+1)
	}
	goes(t, q, 2)
	undropped(t, q, append([]int{7, 8, 100}, math.MinInt, -1, 0, math.MaxInt)...)
	takes(t, q, 10)
	undropped(t, q, 1)
	dropped(t, q, 2) // is due
	undropped(t, q, 2, 1)
	dropped(t, q, 5) // waits
	undropped(t, q, 5)
	stands(t, q, 2, 3, 2)
	takes(t, q, 12)
	none(t, q)
	goes(t, q, 9)
	undropped(t, q, 1, 2, 3, 5, 7)
	takes(t, q, 13, 15)
	none(t, q)
	undropped(t, q, 1, 2, 3, 4, 5, 6, 7)
	put(t, q, 0, 0, 0, 7)
	dropped(t, q, 7)
	none(t, q)
}

// Promise 14.1: it is the number that tells which task is dropped: not the id, nor the place.
func TestDropByNumber(t *testing.T) {
	for n := 1; n <= 9; n++ {
		for _, now := range []int{0, 5} { // those that wait, and those that are due
			q := New()
			for i := range 9 {
				put(t, q, 5, i%3, 9-i, i+1)
			}
			goes(t, q, now)
			dropped(t, q, n)
			goes(t, q, 5)
			for _, i := range []int{2, 5, 8, 1, 4, 7, 0, 3, 6} {
				if i != n-1 {
					takes(t, q, 9-i)
				}
			}
			none(t, q)
		}
	}
}

// Promise 14.1: numbers are told in the order of the Puts that were not refused, and never twice.
func TestNumbers(t *testing.T) {
	q := New()
	for n := 1; n <= 3*topItems; n++ {
		unput(t, q, -n, api.ErrRange)
		put(t, q, n%3, n%5, n, n)
		switch n % 4 {
		case 0:
			dropped(t, q, n)
		case 1:
			goes(t, q, q.Now()+1)
		default:
			q.Take()
		}
		unput(t, q, topTick+n, api.ErrRange)
	}
}
