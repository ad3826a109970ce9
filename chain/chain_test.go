package chain

import (
	"math"
	"slices"
	"testing"

	"corncrib/api"
)

// Promises 11.1, 11.2: the chapter's example.
func TestExample(t *testing.T) {
	l := example()
	may(t, l, 9)
	counts(t, l, 6, l[1])
	swept(t, l, 6, l[1], l[2])
	swept(t, l, 9)
}

// Promise 11.2: chains that are made by Add, one version at a time, up to as many as there may be.
func TestMadeByAdd(t *testing.T) {
	want := longChain(topItems)
	var l []api.Version
	for _, v := range want {
		l = added(t, l, v)
		may(t, l, v.Ts)
	}
	if !slices.Equal(l, want) {
		t.Error(told(l))
	}
	unadded(t, l, live(topStamp, "x"), api.ErrLong)
}

// Promise 11.2: a version behind chains of all sorts: just above the last one, and far above it.
func TestAdd(t *testing.T) {
	for _, l := range chains() {
		last, _ := Last(l)
		for _, ts := range []int{last + 1, last + 2, topStamp} {
			if ts <= last || ts > topStamp || len(l) == topItems {
				continue
			}
			for _, v := range []api.Version{dead(ts), live(ts, ""), live(ts, "x"), live(ts, full(topShard))} {
				byWords(t, added(t, l, v))
			}
		}
	}
	added(t, nil, live(1, "x"))
	added(t, chainOf(1), live(2, ""))
	added(t, longChain(topItems-1), dead(topStamp))
}

// Promise 11.2: a version that is not above the last one, whatever stands ahead of that.
func TestAddNotAbove(t *testing.T) {
	for _, l := range chains() {
		last, _ := Last(l)
		for _, ts := range []int{1, 2, last / 2, last - 1, last} {
			if ts < 1 || ts > last {
				continue
			}
			unadded(t, l, live(ts, "x"), api.ErrOld)
			unadded(t, l, live(ts, ""), api.ErrOld)
			unadded(t, l, dead(ts), api.ErrOld)
		}
	}
}

// Promise 11.2: a version that may not be, told ahead of its not being above the last one, and of the chain's being full.
func TestAddWrongVersion(t *testing.T) {
	for _, l := range chains() {
		for _, ts := range []int{math.MinInt, -1, 0, topStamp + 1, math.MaxInt} {
			unadded(t, l, live(ts, "x"), api.ErrRange)
			unadded(t, l, dead(ts), api.ErrRange)
			unadded(t, l, api.Version{Ts: ts, Shard: full(topShard + 1), Dead: true}, api.ErrRange)
		}
		for _, ts := range []int{1, 5, 10 * topItems, topStamp} {
			unadded(t, l, live(ts, full(topShard+1)), api.ErrLong)
			unadded(t, l, api.Version{Ts: ts, Shard: full(topShard + 1), Dead: true}, api.ErrLong)
			unadded(t, l, api.Version{Ts: ts, Shard: "x", Dead: true}, api.ErrShape)
			unadded(t, l, api.Version{Ts: ts, Shard: full(topShard), Dead: true}, api.ErrShape)
		}
	}
}

// Promise 11.2: a chain that is full: what is not above its last one is told so, what is is too much.
func TestAddToFull(t *testing.T) {
	l := longChain(topItems)
	last := 10 * topItems
	for _, ts := range []int{1, 10, last - 1, last} {
		unadded(t, l, live(ts, "x"), api.ErrOld)
	}
	for _, ts := range []int{last + 1, last + 10, topStamp} {
		unadded(t, l, live(ts, "x"), api.ErrLong)
		unadded(t, l, dead(ts), api.ErrLong)
	}
	left := swept(t, l, 20, l[1:]...)
	left = added(t, left, live(last+10, "x"))
	unadded(t, left, live(last+20, "x"), api.ErrLong)
}

// Promise 11.2: what is wrong with the chain is told ahead of what is with the version.
func TestAddToWrongChain(t *testing.T) {
	for _, x := range faults() {
		l := []api.Version{live(5, "a"), x.v}
		for _, y := range faults() {
			unadded(t, l, y.v, x.e)
		}
		unadded(t, l, live(topStamp, "x"), x.e)
	}
	for _, y := range faults() {
		unadded(t, longChain(topItems+1), y.v, api.ErrLong)
	}
}

// Promise 11.2: which version counts: below the first, at one, between two, at the last, above all, and far off.
func TestAt(t *testing.T) {
	l := chainOf(2, 5, -9, 12)
	for _, x := range []struct{ from, to, place int }{{2, 4, 0}, {5, 8, 1}, {9, 11, 2}, {12, 20, 3}} {
		for time := x.from; time <= x.to; time++ {
			counts(t, l, time, l[x.place])
		}
	}
	for _, time := range []int{math.MinInt, -5, -1, 0, 1} {
		counts(t, l, time, api.Version{})
	}
	for _, time := range []int{topStamp, topStamp + 1, math.MaxInt} {
		counts(t, l, time, l[3])
	}
	for _, time := range times(nil) {
		counts(t, nil, time, api.Version{})
	}
}

// Promise 11.2: a version counts that is dead, and one with an empty shard.
func TestAtDead(t *testing.T) {
	l := []api.Version{dead(3), live(5, ""), dead(7)}
	counts(t, l, 2, api.Version{})
	counts(t, l, 4, dead(3))
	counts(t, l, 5, live(5, ""))
	counts(t, l, 6, live(5, ""))
	counts(t, l, 7, dead(7))
	counts(t, l, math.MaxInt, dead(7))
}

// Promise 11.2: a chain of as many versions as there may be, of each time there is.
func TestAtFull(t *testing.T) {
	l := longChain(topItems)
	for i, v := range l {
		for _, more := range []int{0, 1, 9} {
			counts(t, l, v.Ts+more, l[i])
		}
	}
	counts(t, l, 9, api.Version{})
}

// Promise 11.2: what is left of a chain, swept below a time: below the first, at one, between two, at the last, above all, and far off.
func TestSweep(t *testing.T) {
	l := chainOf(2, 5, 7, 12)
	for _, x := range []struct{ from, to, place int }{{-1, 1, 0}, {2, 4, 0}, {5, 6, 1}, {7, 11, 2}, {12, 20, 3}, {topStamp - 1, topStamp + 1, 3}} {
		for time := x.from; time <= x.to; time++ {
			swept(t, l, time, l[x.place:]...)
		}
	}
	swept(t, l, math.MinInt, l...)
	swept(t, l, math.MaxInt, l[3])
	for _, time := range times(nil) {
		swept(t, nil, time)
	}
}

// Promise 11.2: the last version that is not above the time goes, too, if it is dead; a dead one above it does not.
func TestSweepDead(t *testing.T) {
	l := chainOf(-2, 5, -7, -9, 12, -15)
	for _, x := range []struct{ from, to, place int }{{-1, 1, 0}, {2, 4, 1}, {5, 6, 1}, {7, 8, 3}, {9, 11, 4}, {12, 14, 4}, {15, 20, 6}} {
		for time := x.from; time <= x.to; time++ {
			swept(t, l, time, l[x.place:]...)
		}
	}
	swept(t, l, math.MinInt, l...)
	swept(t, l, math.MaxInt)
	swept(t, chainOf(-1), 0, dead(1))
	swept(t, chainOf(-1), 1)
	swept(t, []api.Version{live(1, "")}, 1, live(1, "")) // empty is not dead
}

// Promise 11.2: the last version's time, live or dead; 0 of none.
func TestLast(t *testing.T) {
	may(t, nil, 0)
	may(t, chainOf(1), 1)
	may(t, chainOf(-1), 1)
	may(t, chainOf(2, 5, -9), 9)
	may(t, chainOf(2, -5, 9), 9)
	may(t, chainOf(1, topStamp), topStamp)
	may(t, longChain(topItems), 10*topItems)
}

// Promises 11.1, 11.2: whatever is done with a chain, all calls tell what the chapter's words make of it.
func TestAsByWords(t *testing.T) {
	m := newMaker(2)
	for range 120 {
		var l []api.Version
		for range 40 {
			last, _ := Last(l)
			switch m.IntN(6) {
			case 0:
				time := last - m.IntN(12)
				l = swept(t, l, time, sweepByWords(l, time)...)
			case 1:
				if last > 0 {
					unadded(t, l, m.version(1+m.IntN(last)), api.ErrOld)
				}
			default:
				l = added(t, l, m.version(last+1+m.IntN(4)))
			}
			byWords(t, l)
		}
	}
}
