package chain

import (
	"math"
	"slices"
	"strings"
	"testing"

	"corncrib/api"
)

// Promise 11.1: chains that may be: 0 and OK.
func TestChainsThatMayBe(t *testing.T) {
	for _, l := range chains() {
		asked(t, l, 0, api.OK)
		byWords(t, l)
	}
}

// Promise 11.1: as many versions as there may be, and more of them.
func TestTooMany(t *testing.T) {
	may(t, longChain(topItems), 10*topItems)
	for _, n := range []int{topItems + 1, topItems + 2, 2 * topItems, 70000} {
		mayNot(t, longChain(n), -1, api.ErrLong)
	}
}

// Promise 11.1: that there are too many is told ahead of what is wrong with a version.
func TestTooManyIsToldFirst(t *testing.T) {
	for _, wrong := range []api.Version{{}, live(math.MaxInt, ""), live(5, full(topShard+1)), {Ts: 5, Shard: "x", Dead: true}, live(10, "")} {
		for _, place := range []int{0, 1, topItems - 1, topItems} {
			l := longChain(topItems + 1)
			l[place] = wrong
			mayNot(t, l, -1, api.ErrLong)
		}
	}
	mayNot(t, make([]api.Version, topItems+1), -1, api.ErrLong)
	mayNot(t, make([]api.Version, topItems), 0, api.ErrRange)
}

// Promise 11.1: a time that is none, at whatever place.
func TestNoTime(t *testing.T) {
	for _, ts := range []int{math.MinInt, -topStamp, -2, -1, 0, topStamp + 1, topStamp + 2, 1 << 51, math.MaxInt} {
		mayNot(t, []api.Version{live(ts, "x")}, 0, api.ErrRange)
		mayNot(t, []api.Version{dead(ts)}, 0, api.ErrRange)
		for place := range 5 {
			l := chainOf(3, 5, -7, 9, -11)
			l[place].Ts = ts
			mayNot(t, l, place, api.ErrRange)
		}
		l := longChain(topItems)
		l[topItems-1].Ts = ts
		mayNot(t, l, topItems-1, api.ErrRange)
	}
	may(t, chainOf(1), 1)
	may(t, chainOf(topStamp), topStamp)
	may(t, chainOf(1, 2, topStamp-1, topStamp), topStamp)
}

// Promise 11.1: a shard that is too long, at whatever place.
func TestShardTooLong(t *testing.T) {
	for _, n := range []int{topShard + 1, topShard + 2, 4096, 1 << 16, 1 << 20} {
		for place := range 4 {
			l := chainOf(3, 5, -7, 9)
			l[place] = live(l[place].Ts, full(n))
			mayNot(t, l, place, api.ErrLong)
		}
	}
	for _, n := range []int{0, 1, topShard - 1, topShard} {
		may(t, []api.Version{live(3, full(n)), dead(4), live(5, full(n))}, 5)
	}
}

// Promise 11.1: a dead version with a shard, at whatever place.
func TestDeadWithShard(t *testing.T) {
	for _, shard := range []string{"x", "\x00", full(topShard)} {
		for place := range 4 {
			l := chainOf(3, 5, -7, 9)
			l[place] = api.Version{Ts: l[place].Ts, Shard: shard, Dead: true}
			mayNot(t, l, place, api.ErrShape)
		}
	}
	may(t, []api.Version{dead(3), live(4, ""), dead(5)}, 5)
}

// Promise 11.1: a time that is that of the version ahead, or below it.
func TestNotAboveTheOneAhead(t *testing.T) {
	for i, x := range []struct {
		times []int
		at    int
	}{
		{[]int{5, 5}, 1}, {[]int{5, 4}, 1}, {[]int{5, -5}, 1}, {[]int{-5, 5}, 1}, {[]int{-5, -4}, 1},
		{[]int{2, 1}, 1}, {[]int{1, 1}, 1}, {[]int{topStamp, topStamp}, 1}, {[]int{topStamp, 1}, 1},
		{[]int{2, 5, 5}, 2}, {[]int{2, 5, 4}, 2}, {[]int{2, 5, 1}, 2},
		{[]int{5, 3, 4}, 1}, {[]int{5, 5, 5}, 1}, {[]int{3, 2, 1}, 1}, // those behind are held against nothing
		{[]int{2, 5, 9, 9, 11}, 3}, {[]int{2, 5, 9, 3, 11}, 3}, {[]int{1, 2, 3, 4, 3}, 4},
	} {
		l := chainOf(x.times...)
		if at, e := checkByWords(l); at != x.at || e != api.ErrOld {
			t.Fatal(i, at, e)
		}
		mayNot(t, l, x.at, api.ErrOld)
	}
	l := longChain(topItems)
	l[topItems-1].Ts = l[topItems-2].Ts
	mayNot(t, l, topItems-1, api.ErrOld)
}

// faults answers versions that may not be behind one at 5, each for one thing, and what is told of it.
func faults() []struct {
	v api.Version
	e api.Errno
} {
	return []struct {
		v api.Version
		e api.Errno
	}{
		{live(0, "x"), api.ErrRange}, {live(topStamp+1, ""), api.ErrRange}, {dead(-1), api.ErrRange},
		{live(6, full(topShard+1)), api.ErrLong},
		{api.Version{Ts: 6, Shard: "x", Dead: true}, api.ErrShape},
		{live(5, "x"), api.ErrOld}, {dead(4), api.ErrOld}, {live(1, ""), api.ErrOld},
	}
}

// Promise 11.1: of faults in several versions that of the first one is told, at its place.
func TestFirstFault(t *testing.T) {
	for _, x := range faults() {
		for _, y := range faults() {
			mayNot(t, []api.Version{live(5, "a"), x.v, y.v}, 1, x.e)
			mayNot(t, []api.Version{live(5, "a"), x.v, live(9, "b"), y.v}, 1, x.e)
			mayNot(t, []api.Version{live(3, "a"), dead(4), live(5, "b"), x.v, live(topStamp, "c"), y.v, {}}, 3, x.e)
		}
		mayNot(t, []api.Version{{}, x.v}, 0, api.ErrRange)
		mayNot(t, []api.Version{live(5, full(topShard+1)), x.v}, 0, api.ErrLong)
		mayNot(t, []api.Version{{Ts: 5, Shard: "x", Dead: true}, x.v}, 0, api.ErrShape)
	}
}

// Promise 11.1: of several faults in one version that is told which the chapter names first.
func TestFaultsOfOne(t *testing.T) {
	for choice := range 1 << 4 {
		v := live(6, "x")
		if choice&8 != 0 {
			v.Ts = 5
		}
		v.Dead = choice&4 != 0
		if choice&2 != 0 {
			v.Shard = full(topShard + 1)
		}
		if choice&1 != 0 {
			v.Ts = -v.Ts
		}
		l := []api.Version{live(2, "a"), live(5, "b"), v}
		switch {
		case choice&1 != 0:
			mayNot(t, l, 2, api.ErrRange)
		case choice&2 != 0:
			mayNot(t, l, 2, api.ErrLong)
		case choice&4 != 0:
			mayNot(t, l, 2, api.ErrShape)
		case choice&8 != 0:
			mayNot(t, l, 2, api.ErrOld)
		default:
			may(t, l, 6)
		}
	}
}

// Promise 11.1: chains with a thing or two that look like chance: told just as the words say.
func TestCheckByWords(t *testing.T) {
	m := newMaker(1)
	near := []int{math.MinInt, -1, 0, 1, 2, 5, 9, 12, topStamp, topStamp + 1, math.MaxInt}
	seen := map[api.Errno]int{}
	for range 6000 {
		l := m.chain(12)
		for range m.IntN(4) {
			if len(l) == 0 {
				break
			}
			v := &l[m.IntN(len(l))]
			switch m.IntN(5) {
			case 0:
				v.Ts = near[m.IntN(len(near))]
			case 1:
				v.Ts += m.IntN(5) - 2
			case 2:
				v.Dead = !v.Dead
			case 3:
				v.Shard = strings.Repeat("y", topShard+m.IntN(2))
			default:
				l = slices.Insert(l, m.IntN(len(l)), m.version(1+m.IntN(30)))
			}
		}
		_, e := checkByWords(l)
		seen[e]++
		byWords(t, l)
	}
	for _, e := range []api.Errno{api.OK, api.ErrRange, api.ErrLong, api.ErrShape, api.ErrOld} {
		if seen[e] < 200 {
			t.Error(e, seen[e])
		}
	}
}
