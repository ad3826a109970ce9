package leases

import (
	"math"
	"testing"

	"corncrib/api"
)

// Promise 17.2: a lease that is kept runs up to the tick and the length together.
func TestKeep(t *testing.T) {
	for _, long := range []int{0, 1, 5, topLong} {
		for later := 0; later <= long; later += max(1, long/3) {
			x := table(t, long)
			take(t, x, 10, 7, 1)
			keep(t, x, 10+later, 1)
			until := 10 + later + long
			runs(t, x, until, 1, 7)
			low(t, x, until, 9, 7)
			refused(t, x, until+1, 1, api.ErrLease)
			low(t, x, until+1, 9, 9)
			has(t, x, 1)
		}
	}
}

// Promise 17.2: it may be kept at the tick at which it ends, again and again, and not one behind it.
func TestKeepAtItsEnd(t *testing.T) {
	x := filled(t, 5, 10)
	for until := 15; until < 400; until += 5 {
		refused(t, x, until+1, 1, api.ErrLease)
		low(t, x, until+1, 9, 9)
		runs(t, x, until, 1, 1001)
		low(t, x, until, 2000, 1001)
		keep(t, x, until, 1)
	}
	x = filled(t, 0, 10)
	for range 3 {
		keep(t, x, 10, 1)
		refused(t, x, 11, 1, api.ErrLease)
		runs(t, x, 10, 1, 1001)
	}
}

// Promise 17.2: a Keep at an earlier tick shortens nothing.
func TestKeepShortensNothing(t *testing.T) {
	x := filled(t, 5, 10)
	for _, now := range []int{9, 0, 5, 4, 10} {
		keep(t, x, now, 1)
		runs(t, x, 15, 1, 1001)
		refused(t, x, 16, 1, api.ErrLease)
	}
	keep(t, x, 13, 1)
	for _, now := range []int{12, 0, 13} {
		keep(t, x, now, 1)
		runs(t, x, 18, 1, 1001)
		refused(t, x, 19, 1, api.ErrLease)
	}
	keep(t, x, 14, 1)
	runs(t, x, 19, 1, 1001)
	refused(t, x, 20, 1, api.ErrLease)
}

// Promise 17.2: one lease is kept, and no other, wherever it stands.
func TestKeepOneAlone(t *testing.T) {
	for kept := 1; kept <= 5; kept++ {
		x := filled(t, 5, 10, 10, 10, 10, 10)
		keep(t, x, 12, kept)
		for n := 1; n <= 5; n++ {
			runs(t, x, 15, n, 1000+n)
			if n == kept {
				runs(t, x, 17, n, 1000+n)
				refused(t, x, 18, n, api.ErrLease)
				low(t, x, 17, 2000, 1000+n)
			} else {
				refused(t, x, 16, n, api.ErrLease)
			}
		}
	}
}

// Promise 17.2: ticks are from 0 to api.MaxTick, for Keep and Check.
func TestKeepAndCheckRange(t *testing.T) {
	x := filled(t, 5, 0, topTick)
	for _, now := range noTicks {
		refused(t, x, now, 2, api.ErrRange)
	}
	take(t, x, 0, 8, 3)
	runs(t, x, 0, 3, 8)
	keep(t, x, 0, 3)
	keep(t, x, topTick, 2)
	runs(t, x, topTick, 2, 1002)
	runs(t, x, 0, 2, 1002)
	refused(t, x, topTick, 3, api.ErrLease)
	refused(t, x, 6, 3, api.ErrLease)
	runs(t, x, 5, 3, 8)
}

// Promise 17.2: a lease near the last tick runs up to behind it.
func TestKeepAtTheLastTick(t *testing.T) {
	x := filled(t, topLong, topTick-topLong)
	runs(t, x, topTick, 1, 1001)
	keep(t, x, topTick, 1)
	keep(t, x, topTick, 1)
	runs(t, x, topTick, 1, 1001)
	low(t, x, topTick, 2000, 1001)
	take(t, x, topTick, 5, 2)
	has(t, x, 2)
	x = filled(t, 5, topTick-6)
	refused(t, x, topTick, 1, api.ErrLease)
	keep(t, x, topTick-1, 1)
	runs(t, x, topTick, 1, 1001)
}

// Promise 17.2: there is no lease of a number that was not given out, that was ended, or that was let go of.
func TestNoSuchLease(t *testing.T) {
	x := filled(t, 5, 10, 10, 10)
	never := []int{math.MinInt, -topTick, -2, -1, 0, 4, 5, 1001, topTick, math.MaxInt}
	gone(t, x, never...)
	has(t, x, 3)
	end(t, x, 2)
	gone(t, x, append(never, 2)...)
	has(t, x, 2)
	runs(t, x, 15, 1, 1001)
	runs(t, x, 15, 3, 1003)
	keep(t, x, 12, 3)
	take(t, x, 16, 7, 4) // lets go of 1
	has(t, x, 2)
	gone(t, x, 1, 2, 0, -1, 5)
	runs(t, x, 16, 3, 1003)
	runs(t, x, 16, 4, 7)
}

// Promise 17.2, R1: a wrong tick is told ahead of a number of no lease, and of a lease that is over.
func TestKeepAndCheckOrder(t *testing.T) {
	x := filled(t, 5, 10)
	for _, now := range []int{-1, topTick + 1} {
		for _, number := range []int{1, 0, -1, 2} {
			refused(t, x, now, number, api.ErrRange)
		}
	}
	refused(t, x, topTick, 1, api.ErrLease)
	refused(t, x, topTick, 2, api.ErrNone)
}

// Promise 17.2: a lease is ended, and no other, wherever it stands; and once.
func TestEnd(t *testing.T) {
	for ended := 1; ended <= 4; ended++ {
		x := filled(t, 5, 10, 10, 10, 10)
		end(t, x, ended)
		gone(t, x, ended)
		has(t, x, 3)
		for n := 1; n <= 4; n++ {
			if n != ended {
				runs(t, x, 15, n, 1000+n)
				refused(t, x, 16, n, api.ErrLease)
			}
		}
	}
	x := filled(t, 5, 10, 10, 10, 10)
	end(t, x, 3, 1, 4, 2)
	has(t, x, 0)
	gone(t, x, 1, 2, 3, 4, 5)
	low(t, x, 10, 9, 9)
	take(t, x, 10, 3, 5)
}

// Promise 17.2: a lease that was ended is over for nobody: it is none.
func TestEndOfOneThatIsOver(t *testing.T) {
	x := filled(t, 5, 10)
	refused(t, x, 99, 1, api.ErrLease)
	end(t, x, 1)
	refused(t, x, 99, 1, api.ErrNone)
	has(t, x, 0)
}

// Promise 17.2: Check changes nothing, and tells the stamp that was taken, kept or not.
func TestCheck(t *testing.T) {
	x := table(t, 5)
	stamps := []int{7, 0, 7, topStamp, 1}
	for i, ts := range stamps {
		take(t, x, 10, ts, i+1)
	}
	for range 2 {
		for _, now := range []int{15, 10, 0, 9} {
			for i, ts := range stamps {
				runs(t, x, now, i+1, ts)
			}
		}
		for i := range stamps {
			if ts, e := x.Check(16, i+1); ts != 0 || e != api.ErrLease {
				t.Errorf("Check(16, %d): %d, %d", i+1, ts, e)
			}
		}
	}
	for i, ts := range stamps {
		runs(t, x, 15, i+1, ts)
		keep(t, x, 15, i+1)
		runs(t, x, 20, i+1, ts)
	}
}

// Promise 17.2: ticks may go back: what is over at one tick is not at an earlier one.
func TestTicksGoBack(t *testing.T) {
	x := filled(t, 5, 10)
	for range 3 {
		refused(t, x, 16, 1, api.ErrLease)
		low(t, x, 16, 5000, 5000)
		runs(t, x, 15, 1, 1001)
		low(t, x, 15, 5000, 1001)
		refused(t, x, topTick, 1, api.ErrLease)
		runs(t, x, 0, 1, 1001)
	}
	keep(t, x, 15, 1) // behind having been over
	runs(t, x, 20, 1, 1001)
	take(t, x, 2, 40, 2)
	runs(t, x, 7, 2, 40)
	refused(t, x, 8, 2, api.ErrLease)
	has(t, x, 2)
	take(t, x, 8, 41, 3) // lets go of 2
	gone(t, x, 2)
	take(t, x, 21, 42, 4) // lets go of 1 and 3
	gone(t, x, 1, 2, 3)
	take(t, x, 0, 43, 5)
	has(t, x, 2)
	runs(t, x, 0, 4, 42)
	runs(t, x, 5, 5, 43)
}
