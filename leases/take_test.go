package leases

import (
	"math"
	"slices"
	"testing"

	"corncrib/api"
)

// The chapter's example.
func TestExample(t *testing.T) {
	x := table(t, 5)
	take(t, x, 10, 7, 1)
	low(t, x, 15, 9, 7)
	low(t, x, 16, 9, 9)
}

// Promise 17.1: a new table has no leases.
func TestNew(t *testing.T) {
	for _, long := range []int{0, 1, 5, topLong - 1, topLong} {
		x := table(t, long)
		has(t, x, 0)
		low(t, x, 0, 9, 9)
		gone(t, x, -1, 0, 1, 2)
		other := table(t, long)
		take(t, other, 3, 4, 1)
		has(t, x, 0)
		gone(t, x, 1)
		take(t, x, 3, 5, 1)
		runs(t, x, 3, 1, 5)
		runs(t, other, 3, 1, 4)
	}
}

// Promise 17.1: a length is from 0 to 2^20.
func TestNewLengths(t *testing.T) {
	for _, long := range []int{math.MinInt, -topLong, -2, -1, topLong + 1, topLong + 2, topTick, math.MaxInt} {
		if x, e := New(long); x != nil || e != api.ErrRange {
			t.Errorf("New(%d): %v, %d; not %d", long, x != nil, e, api.ErrRange)
		}
	}
	for _, long := range []int{0, 1, 2, 1000, topLong - 1, topLong} {
		x := table(t, long)
		take(t, x, 7, 3, 1)
		runs(t, x, 7+long, 1, 3)
		refused(t, x, 7+long+1, 1, api.ErrLease)
	}
}

// Promise 17.1: numbers are given out from 1 on, one after the other, whatever their stamps and ticks.
func TestTakeNumbers(t *testing.T) {
	x := table(t, 5)
	for i, l := range [][2]int{{10, 7}, {10, 7}, {12, 3}, {11, 900}, {12, 0}, {10, topStamp}} {
		take(t, x, l[0], l[1], i+1)
		has(t, x, i+1)
	}
	for i, ts := range []int{7, 7, 3, 900, 0, topStamp} {
		runs(t, x, 15, i+1, ts)
	}
}

// Promise 17.1: leases run up to the tick and the length together.
func TestTakeRuns(t *testing.T) {
	for _, long := range []int{0, 1, 5, topLong} {
		for _, now := range []int{0, 1, 10, topTick - topLong, topTick - 6, topTick - 5, topTick - 2, topTick - 1, topTick} {
			x := table(t, long)
			take(t, x, now, 3, 1)
			for _, at := range []int{0, now, min(topTick, now+long/2), min(topTick, now+long)} {
				runs(t, x, at, 1, 3)
				low(t, x, at, 9, 3)
			}
			if now+long >= topTick {
				continue // there is no tick behind it
			}
			for _, at := range []int{now + long + 1, topTick} {
				refused(t, x, at, 1, api.ErrLease)
				low(t, x, at, 9, 9)
			}
			runs(t, x, now+long, 1, 3)
		}
	}
}

// Promise 17.1: ticks are from 0 to api.MaxTick, time stamps from 0 to api.MaxStamp.
func TestTakeRange(t *testing.T) {
	x := table(t, 5)
	given := 0
	for range 2 {
		for _, now := range noTicks {
			untaken(t, x, now, 3, api.ErrRange)
			untaken(t, x, now, -1, api.ErrRange)
		}
		for _, ts := range noStamps {
			untaken(t, x, 3, ts, api.ErrRange)
			untaken(t, x, topTick, ts, api.ErrRange)
		}
		for _, l := range [][2]int{{0, 0}, {0, topStamp}, {1, 1}, {topTick, topStamp - 1}, {topTick, topStamp}, {topTick, 0}} {
			given++
			take(t, x, l[0], l[1], given)
			runs(t, x, l[0], given, l[1])
		}
	}
}

// full answers a table of length 5 with so many leases taken at the tick 10, and one more each for these ticks.
func full(t *testing.T, n int, ticks ...int) *Table {
	t.Helper()
	return filled(t, 5, append(slices.Repeat([]int{10}, n), ticks...)...)
}

// Promise 17.1: of api.MaxItems leases that are not over one more is refused, of one less none.
func TestTakeTooMany(t *testing.T) {
	x := full(t, topItems-1)
	take(t, x, 15, 3, topItems)
	for _, now := range []int{0, 9, 10, 14, 15} {
		untaken(t, x, now, 3, api.ErrLong)
	}
	has(t, x, topItems)
	for number := 1; number < topItems; number++ {
		runs(t, x, 15, number, 1000+number)
	}
	runs(t, x, 20, topItems, 3)
	take(t, x, 16, 4, topItems+1) // all but the last one are over
	has(t, x, 2)
	gone(t, x, 1, 2, topItems-1)
	runs(t, x, 16, topItems, 3)
	runs(t, x, 16, topItems+1, 4)
}

// Promise 17.1: a full table has room again as soon as one lease is over, or ended.
func TestTakeRoomAgain(t *testing.T) {
	for _, at := range []int{0, 1, 500, topItems - 1} { // where the one that is over stands
		ticks := slices.Repeat([]int{10}, topItems)
		ticks[at] = 9
		x := filled(t, 5, ticks...)
		untaken(t, x, 14, 3, api.ErrLong)
		take(t, x, 15, 3, topItems+1)
		has(t, x, topItems)
		gone(t, x, at+1)
		untaken(t, x, 15, 3, api.ErrLong)
		end(t, x, topItems+1)
		take(t, x, 15, 3, topItems+2)
		untaken(t, x, 15, 3, api.ErrLong)
	}
	x := full(t, topItems)
	take(t, x, 16, 3, topItems+1) // all are over
	has(t, x, 1)
	gone(t, x, 1, 2, 500, topItems)
	runs(t, x, 16, topItems+1, 3)
}

// Promise 17.1: leases that are kept are not over.
func TestTakeTooManyKept(t *testing.T) {
	x := full(t, topItems)
	for number := range topItems {
		keep(t, x, 15, number+1)
	}
	for _, now := range []int{0, 16, 20} {
		untaken(t, x, now, 3, api.ErrLong)
	}
	take(t, x, 21, 3, topItems+1)
	has(t, x, 1)
}

// Promise 17.1, R1: what is wrong with a tick or a stamp is told ahead of a full table.
func TestTakeOrder(t *testing.T) {
	x := full(t, topItems)
	untaken(t, x, -1, 3, api.ErrRange)
	untaken(t, x, topTick+1, 3, api.ErrRange)
	untaken(t, x, 10, -1, api.ErrRange)
	untaken(t, x, 10, topStamp+1, api.ErrRange)
	untaken(t, x, -1, -1, api.ErrRange)
	untaken(t, x, 10, 3, api.ErrLong)
}

// Promise 17.3: a Take that is answered OK lets go of all that are over at its tick, and of no other, wherever they stand.
func TestTakeLetsGo(t *testing.T) {
	ticks := []int{12, 10, 14, 11, 10, 13}
	for now := range 22 {
		x := filled(t, 5, ticks...)
		has(t, x, len(ticks))
		take(t, x, now, 99, 7)
		left := 1
		for i, taken := range ticks {
			if taken+5 < now {
				gone(t, x, i+1)
				continue
			}
			left++
			runs(t, x, now, i+1, 1001+i)
		}
		has(t, x, left)
		runs(t, x, now, 7, 99)
	}
}

// Promise 17.3: a Take that is refused lets go of nothing, and no other call does.
func TestOthersLetGoOfNothing(t *testing.T) {
	x := filled(t, 5, 10, 11, 12)
	for range 2 {
		untaken(t, x, topTick+1, 3, api.ErrRange)
		untaken(t, x, 17, -1, api.ErrRange)
		untaken(t, x, 17, topStamp+1, api.ErrRange)
		refused(t, x, topTick, 1, api.ErrLease)
		refused(t, x, topTick, 4, api.ErrNone)
		refused(t, x, topTick+1, 1, api.ErrRange)
		low(t, x, topTick, 9, 9)
		is(t, "end", x.End(4), api.ErrNone)
		has(t, x, 3)
		runs(t, x, 15, 1, 1001)
		runs(t, x, 16, 2, 1002)
		runs(t, x, 17, 3, 1003)
	}
	x = full(t, topItems)
	untaken(t, x, 15, 3, api.ErrLong)
	low(t, x, 16, 9, 9)
	untaken(t, x, 15, 3, api.ErrLong) // though all are over at a later tick
	has(t, x, topItems)
	runs(t, x, 15, 1, 1001)
}

// Promise 17.1: a number that was given out is never given out again, behind an End, and behind a Take that let go.
func TestNumbersNeverAgain(t *testing.T) {
	x := table(t, 0)
	take(t, x, 3, 1, 1)
	end(t, x, 1)
	take(t, x, 3, 1, 2)
	take(t, x, 3, 1, 3)
	end(t, x, 2)
	take(t, x, 3, 1, 4)
	end(t, x, 4, 3)
	has(t, x, 0)
	take(t, x, 3, 1, 5)
	take(t, x, 4, 2, 6) // lets go of 5
	has(t, x, 1)
	gone(t, x, 1, 2, 3, 4, 5, 7)
	end(t, x, 6)
	for number := 7; number < 3000; number++ {
		take(t, x, number, number, number)
		has(t, x, 1)
		if number%3 == 0 {
			end(t, x, number)
		}
	}
	gone(t, x, 5, 6, 7, 2997, 2998, 3000)
	runs(t, x, 2999, 2999, 2999)
}

// Promise 17.1: a Take that is refused uses no number up.
func TestRefusedUsesNoNumber(t *testing.T) {
	x := full(t, topItems-1)
	untaken(t, x, -1, 3, api.ErrRange)
	untaken(t, x, 10, -1, api.ErrRange)
	take(t, x, 10, 3, topItems)
	for range 5 {
		untaken(t, x, 10, 3, api.ErrLong)
	}
	end(t, x, 77)
	take(t, x, 10, 3, topItems+1)
}
