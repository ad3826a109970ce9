package due

import (
	"math"
	"testing"

	"corncrib/api"
)

// Promise 14.2: a queue goes to its own tick, and to each that is later, up to the last one; to none else.
func TestGo(t *testing.T) {
	for _, now := range []int{0, 1, 5, topTick - 1, topTick} {
		for _, to := range append([]int{4, 5, 6}, wildNumbers...) {
			q := New()
			put(t, q, 5, 1, 1, 1)
			goes(t, q, now)
			if to < now || to > topTick {
				stays(t, q, to)
				stands(t, q, now, 1, 5)
			} else {
				goes(t, q, to)
				stands(t, q, to, 1, 5)
			}
			if q.Now() < 5 {
				none(t, q)
			} else {
				takes(t, q, 1)
			}
		}
	}
}

// Promise 14.2: behind what is refused a queue goes on as ahead of it.
func TestGoBehindRefused(t *testing.T) {
	q := New()
	put(t, q, 5, 1, 1, 1)
	put(t, q, 8, 1, 2, 2)
	goes(t, q, 6)
	for _, to := range []int{5, 0, -1, math.MinInt, topTick + 1, math.MaxInt} {
		stays(t, q, to)
		stands(t, q, 6, 2, 5)
	}
	goes(t, q, 6)
	goes(t, q, 6)
	takes(t, q, 1)
	none(t, q)
	goes(t, q, topTick)
	goes(t, q, topTick)
	stays(t, q, topTick-1)
	stays(t, q, topTick+1)
	takes(t, q, 2)
	put(t, q, topTick, 0, 3, 3)
	put(t, q, 0, 0, 4, 4)
	takes(t, q, 4, 3)
	stands(t, q, topTick, 0, 0)
}

// Promise 14.2: how many tasks there are, whether they wait or are due.
func TestLen(t *testing.T) {
	q := New()
	for i := range 5 {
		put(t, q, 1+i%2, i, i, i+1)
		stands(t, q, 0, i+1, 1)
	}
	unput(t, q, -1, api.ErrRange)
	goes(t, q, 1)
	stands(t, q, 1, 5, 1)
	takes(t, q, 4)
	stands(t, q, 1, 4, 1)
	dropped(t, q, 4)
	stands(t, q, 1, 3, 1)
	undropped(t, q, 4)
	goes(t, q, 2)
	stands(t, q, 2, 3, 1)
	takes(t, q, 2, 1, 0)
	stands(t, q, 2, 0, 0)
	none(t, q)
	stands(t, q, 2, 0, 0)
}

// Promise 14.2: the least tick of tasks that wait, and behind the Drop of the least one.
func TestNextOfWaiting(t *testing.T) {
	q := New()
	put(t, q, 7, 1, 1, 1)
	stands(t, q, 0, 1, 7)
	put(t, q, 9, 9, 2, 2)
	stands(t, q, 0, 2, 7)
	put(t, q, 3, 0, 3, 3)
	stands(t, q, 0, 3, 3)
	put(t, q, 3, 0, 4, 4)
	put(t, q, topTick, 0, 5, 5)
	dropped(t, q, 3)
	stands(t, q, 0, 4, 3)
	dropped(t, q, 4)
	stands(t, q, 0, 3, 7)
	dropped(t, q, 2)
	stands(t, q, 0, 2, 7)
	dropped(t, q, 1)
	stands(t, q, 0, 1, topTick)
	dropped(t, q, 5)
	stands(t, q, 0, 0, 0)
}

// Promise 14.2: the least tick of tasks that are due, too, which need not be the first one's; behind Take and Drop of the least one.
func TestNextOfDue(t *testing.T) {
	q := New()
	put(t, q, 4, 9, 1, 1)
	put(t, q, 2, 1, 2, 2)
	put(t, q, 3, 5, 3, 3)
	put(t, q, 0, 0, 4, 4)
	put(t, q, 8, 7, 5, 5)
	stands(t, q, 0, 5, 0)
	goes(t, q, 5)
	stands(t, q, 5, 5, 0)
	dropped(t, q, 4)
	stands(t, q, 5, 4, 2)
	takes(t, q, 1)
	stands(t, q, 5, 3, 2)
	dropped(t, q, 2)
	stands(t, q, 5, 2, 3)
	put(t, q, 1, 6, 6, 6)
	stands(t, q, 5, 3, 1)
	takes(t, q, 6)
	stands(t, q, 5, 2, 3)
	takes(t, q, 3)
	stands(t, q, 5, 1, 8)
	goes(t, q, 8)
	stands(t, q, 8, 1, 8)
	takes(t, q, 5)
	stands(t, q, 8, 0, 0)
}
