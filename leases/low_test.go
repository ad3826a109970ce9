package leases

import (
	"testing"

	"corncrib/api"
)

// Promise 17.3: without leases Low is last.
func TestLowOfNone(t *testing.T) {
	x := table(t, 5)
	for _, now := range []int{0, 1, 10, topTick - 1, topTick} {
		for _, last := range []int{0, 1, 9, topStamp - 1, topStamp} {
			low(t, x, now, last, last)
		}
	}
}

// Promise 17.3: of one lease Low is the lesser of its stamp and last, as long as it is not over.
func TestLowOfOne(t *testing.T) {
	for _, ts := range []int{0, 1, 7, topStamp - 1, topStamp} {
		x := table(t, 5)
		take(t, x, 10, ts, 1)
		for _, last := range []int{0, 1, 6, 7, 8, topStamp - 1, topStamp} {
			for _, now := range []int{0, 9, 10, 14, 15} {
				low(t, x, now, last, min(ts, last))
			}
			for _, now := range []int{16, 17, topTick} {
				low(t, x, now, last, last)
			}
		}
	}
}

// Promise 17.3: of several the least one, wherever it stands.
func TestLowOfSeveral(t *testing.T) {
	stamps := []int{30, 20, 50, 40, 60}
	for least := range stamps {
		x := table(t, 5)
		for i, ts := range stamps {
			if i == least {
				ts = 3
			}
			take(t, x, 10, ts, i+1)
		}
		low(t, x, 15, 99, 3)
		low(t, x, 15, 2, 2)
		end(t, x, least+1)
		want := 20
		if least == 1 {
			want = 30
		}
		low(t, x, 15, 99, want)
		low(t, x, 15, 25, min(want, 25))
		low(t, x, 16, 99, 99)
	}
}

// Promise 17.3: those that are over count no more, one after the other.
func TestLowAsTheyEnd(t *testing.T) {
	x := filled(t, 5, 10, 11, 12, 13)
	for i, now := range []int{15, 16, 17, 18} {
		low(t, x, now, 5000, 1001+i)
		has(t, x, 4)
	}
	low(t, x, 19, 5000, 5000)
	has(t, x, 4)
	y := table(t, 5) // the least stamp is that of the last one
	for i := range 4 {
		take(t, y, 10+i, 50-i, i+1)
	}
	for now := range 19 {
		low(t, y, now, 5000, 47)
	}
	low(t, y, 19, 5000, 5000)
	low(t, y, 18, 5000, 47) // back again
}

// Promise 17.3: ticks are from 0 to api.MaxTick, time stamps from 0 to api.MaxStamp.
func TestLowRange(t *testing.T) {
	for _, x := range []*Table{table(t, 5), filled(t, 5, 10), filled(t, topLong, 0, 10, topTick)} {
		n := x.Len()
		for _, now := range noTicks {
			noLow(t, x, now, 9)
			noLow(t, x, now, -1)
		}
		for _, last := range noStamps {
			noLow(t, x, 10, last)
			noLow(t, x, topTick, last)
		}
		has(t, x, n)
		low(t, x, 0, 0, 0)
		low(t, x, topTick, 0, 0)
		low(t, x, topTick, 9, 9)
	}
}

// Promise 17.3: Len counts those that are over, too, till they are let go of.
func TestLen(t *testing.T) {
	x := table(t, 5)
	for i := range 10 {
		has(t, x, i)
		take(t, x, 10, 3, i+1)
	}
	refused(t, x, 16, 1, api.ErrLease)
	low(t, x, 16, 9, 9)
	has(t, x, 10)
	end(t, x, 4, 5)
	has(t, x, 8)
	keep(t, x, 12, 1, 2, 3)
	has(t, x, 8)
	take(t, x, 16, 3, 11)
	has(t, x, 4)
	take(t, x, 99, 3, 12)
	has(t, x, 1)
	end(t, x, 12)
	has(t, x, 0)
}
