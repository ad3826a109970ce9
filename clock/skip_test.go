package clock

import (
	"math"
	"slices"
	"testing"

	"corncrib/api"
)

// amid answers a clock of block 10, with its bound 10 and 4 as its last stamp.
func amid(t *testing.T) (*Clock, func(l ...int)) {
	t.Helper()
	d, c := fresh(t, 8, 10)
	next(t, c, 1, 2, 3, 4)
	return c, func(l ...int) {
		t.Helper()
		keeps(t, d, l...)
	}
}

// Promise 16.3: up to the bound nothing is written.
func TestSkipWithinBound(t *testing.T) {
	for to := 4; to <= 10; to++ {
		c, has := amid(t)
		is(t, "skip", c.Skip(to), api.OK)
		tells(t, c, to, 10)
		has(10)
		next(t, c, to+1)
		if to < 10 {
			tells(t, c, to+1, 10)
			has(10)
		} else {
			tells(t, c, 11, 20)
			has(10, 20)
		}
	}
}

// Promise 16.3: nothing is written up to the bound, be the device down.
func TestSkipWithinBoundDown(t *testing.T) {
	d, c := fresh(t, 8, 10)
	is(t, "skip to 0", c.Skip(0), api.OK)
	next(t, c, 1)
	down(t, d)
	for _, to := range []int{1, 5, 5, 10, 10} {
		is(t, "skip", c.Skip(to), api.OK)
		tells(t, c, to, 10)
	}
	noSkip(t, c, 11, api.ErrDown)
}

// Promise 16.3: above the bound a record is written, which is the bound, and the last stamp.
func TestSkipAboveBound(t *testing.T) {
	for _, to := range []int{11, 12, 19, 20, 21, 1000, 1 << 40, topStamp - 1, topStamp} {
		c, has := amid(t)
		is(t, "skip", c.Skip(to), api.OK)
		tells(t, c, to, to)
		has(10, to)
		is(t, "skip to where it is", c.Skip(to), api.OK)
		tells(t, c, to, to)
		has(10, to)
		if to == topStamp {
			none(t, c, api.ErrSpent)
			continue
		}
		next(t, c, to+1)
		bound := min(to+10, topStamp)
		tells(t, c, to+1, bound)
		has(10, to, bound)
	}
}

// Promise 16.3: a clock on a new device skips to anywhere; to 0 without a record.
func TestSkipNew(t *testing.T) {
	for _, to := range []int{0, 1, 9, 10, 11, topBlock, topStamp - 1, topStamp} {
		d, c := fresh(t, 4, 10)
		is(t, "skip", c.Skip(to), api.OK)
		tells(t, c, to, to)
		if to == 0 {
			keeps(t, d)
			next(t, c, 1)
			continue
		}
		keeps(t, d, to)
		d.Crash()
		tells(t, opened(t, d, 10), to, to)
	}
}

// Promise 16.3: a clock that was opened skips from its bound on.
func TestSkipOpened(t *testing.T) {
	d := logged(t, 8, uptos(3, 70)...)
	c := opened(t, d, 10)
	for _, to := range []int{0, 3, 69} {
		noSkip(t, c, to, api.ErrRange)
	}
	is(t, "skip", c.Skip(70), api.OK)
	keeps(t, d, 3, 70)
	is(t, "skip", c.Skip(71), api.OK)
	tells(t, c, 71, 71)
	keeps(t, d, 3, 70, 71)
}

// Promise 16.3: below the last stamp, and above api.MaxStamp, there is nowhere to skip to.
func TestSkipNowhere(t *testing.T) {
	c, has := amid(t)
	for _, to := range []int{math.MinInt, -topStamp, -1, 0, 1, 3, topStamp + 1, topStamp + 2, math.MaxInt} {
		noSkip(t, c, to, api.ErrRange)
		tells(t, c, 4, 10)
		has(10)
	}
	next(t, c, 5)
	_, c = fresh(t, 8, 10)
	noSkip(t, c, -1, api.ErrRange)
	noSkip(t, c, topStamp+1, api.ErrRange)
	tells(t, c, 0, 0)
	_, c = at(t, 8, 10, topStamp)
	noSkip(t, c, topStamp+1, api.ErrRange)
	noSkip(t, c, topStamp-1, api.ErrRange)
	is(t, "skip", c.Skip(topStamp), api.OK)
	tells(t, c, topStamp, topStamp)
}

// Promise 16.3: a bound that is api.MaxStamp already, with stamps left.
func TestSkipInLastBlock(t *testing.T) {
	d, c := at(t, 8, 10, topStamp-5)
	next(t, c, topStamp-4)
	tells(t, c, topStamp-4, topStamp)
	noSkip(t, c, topStamp-5, api.ErrRange)
	noSkip(t, c, topStamp+1, api.ErrRange)
	is(t, "skip", c.Skip(topStamp-1), api.OK)
	tells(t, c, topStamp-1, topStamp)
	next(t, c, topStamp)
	none(t, c, api.ErrSpent)
	keeps(t, d, topStamp-5, topStamp)
}

// Promise 16.3: where to is wrong is told ahead of the device.
func TestSkipNowhereAndDown(t *testing.T) {
	d, c := at(t, 8, 10, 7)
	down(t, d)
	noSkip(t, c, 6, api.ErrRange)
	noSkip(t, c, topStamp+1, api.ErrRange)
	noSkip(t, c, topStamp, api.ErrDown)
	noSkip(t, c, 8, api.ErrDown)
	is(t, "skip", c.Skip(7), api.OK)
}

// Promise 16.3: where the log has no room left, it is restarted with the new record alone.
func TestSkipNoRoom(t *testing.T) {
	d := logged(t, 4, uptos(1, 2, 3, 4)...)
	c := opened(t, d, 10)
	is(t, "skip", c.Skip(4), api.OK)
	keeps(t, d, 1, 2, 3, 4)
	is(t, "skip", c.Skip(5), api.OK)
	tells(t, c, 5, 5)
	keeps(t, d, 5)
	is(t, "skip", c.Skip(6), api.OK)
	keeps(t, d, 5, 6)
	is(t, "skip", c.Skip(topStamp), api.OK) // 32 of 64 bytes are left
	keeps(t, d, 5, 6, topStamp)
	d = logged(t, 4, uptos(1, 2, 3)...) // 16 bytes are left
	c = opened(t, d, 10)
	is(t, "skip", c.Skip(topStamp), api.OK)
	keeps(t, d, topStamp)
	tells(t, opened(t, d, 10), topStamp, topStamp)
}

// Promise 16.3: where the device goes down ahead of, in and behind what is written.
func TestSkipDown(t *testing.T) {
	for _, l := range [][]int{{7}, {1, 2, 3, 7}} { // a sync, and a restart
		for n := 1; n <= 5; n++ {
			d := logged(t, 4, uptos(l...)...)
			c := opened(t, d, 10)
			fuse(t, d, n)
			if n == 5 {
				is(t, "skip", c.Skip(60), api.OK)
				tells(t, c, 60, 60)
				is(t, "the fifth", d.Flush(), api.ErrDown)
				d.Crash()
				tells(t, opened(t, d, 10), 60, 60)
				continue
			}
			noSkip(t, c, 60, api.ErrDown)
			tells(t, c, 7, 7)
			d.Crash()
			keeps(t, d, l...)
			tells(t, opened(t, d, 10), 7, 7)
		}
	}
}

// Promise 16.3: Skip and Next in turn, with each record that is written.
func TestSkipAndNext(t *testing.T) {
	d, c := fresh(t, 40, 10)
	var want []int
	for _, x := range []struct{ to, last, bound int }{{3, 4, 13}, {13, 14, 23}, {22, 23, 23}, {23, 24, 33}, {34, 35, 44}, {44, 45, 54}, {1000, 1001, 1010}, {1010, 1011, 1020}} {
		had := c.Bound()
		is(t, "skip", c.Skip(x.to), api.OK)
		if x.to > had {
			want = append(want, x.to)
			tells(t, c, x.to, x.to)
		} else {
			tells(t, c, x.to, had)
		}
		had = c.Bound()
		next(t, c, x.last)
		tells(t, c, x.last, x.bound)
		if x.bound > had {
			want = append(want, x.bound)
		}
		keeps(t, d, want...)
	}
	if !slices.Contains(want, 34) || slices.Contains(want, 22) {
		t.Error(want)
	}
}
