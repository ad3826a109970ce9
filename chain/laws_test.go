package chain

import (
	"math"
	"slices"
	"testing"
	"unsafe"

	"corncrib/api"
)

// read answers what is read of a time: a shard and true, or false, if there is none, or it is dead.
func read(t *testing.T, l []api.Version, time int) (string, bool) {
	t.Helper()
	v, ok, e := At(l, time)
	if e != api.OK {
		t.Fatal(told(l), e)
	}
	return v.Shard, ok && !v.Dead
}

// readsSame fails, unless of a time the same is read of two chains.
func readsSame(t *testing.T, l, other []api.Version, time int) {
	t.Helper()
	s, ok := read(t, l, time)
	if x, there := read(t, other, time); x != s || there != ok {
		t.Errorf("%s, %s: at %d %q, %v, and %q, %v", told(l), told(other), time, s, ok, x, there)
	}
}

// Promise 11.3: what is read of a time is the same behind versions that are added above it.
func TestReadBehindAdd(t *testing.T) {
	m := newMaker(3)
	for range 2000 {
		l := m.chain(8)
		last, _ := Last(l)
		more := l
		ts := last
		for range 1 + m.IntN(4) {
			ts += 1 + m.IntN(5)
			more = added(t, more, m.version(ts))
		}
		first := more[len(l)].Ts
		for time := -1; time < first; time++ {
			readsSame(t, l, more, time)
			was, wasThere, _ := At(l, time)
			is, isThere, _ := At(more, time)
			if was != is || wasThere != isThere { // nothing is swept: even what is dead stays
				t.Errorf("%s, %s: at %d", told(l), told(more), time)
			}
		}
		counts(t, more, first, more[len(l)])
	}
}

// Promise 11.3: what is read of a time is the same behind a sweep below any time that is not above it.
func TestReadBehindSweep(t *testing.T) {
	m := newMaker(4)
	for _, l := range append(chains()[:13], m.chain(8), m.chain(9), m.chain(30), m.chain(30)) {
		for _, below := range times(l) {
			left, e := Sweep(l, below)
			if e != api.OK {
				t.Fatal(told(l), e)
			}
			for _, time := range times(l) {
				if time >= below {
					readsSame(t, l, left, time)
				}
			}
		}
	}
	l := longChain(topItems)
	for _, below := range []int{9, 10, 30, 35, 5000, 10 * topItems, math.MaxInt} {
		left, _ := Sweep(l, below)
		for _, time := range []int{below, below + 1, 10*topItems + 1, math.MaxInt} {
			if time >= below {
				readsSame(t, l, left, time)
			}
		}
	}
}

// Promise 11.3: so it is behind any number of adds and sweeps.
func TestReadBehindAll(t *testing.T) {
	m := newMaker(5)
	for range 400 {
		l := m.chain(10)
		last, _ := Last(l)
		time := m.IntN(last + 4)
		now, newest := l, max(last, time)
		for range 30 {
			if m.IntN(2) == 0 {
				newest += 1 + m.IntN(3)
				now = added(t, now, m.version(newest))
			} else {
				below := time - m.IntN(6)
				now = swept(t, now, below, sweepByWords(now, below)...)
			}
			readsSame(t, l, now, time)
		}
	}
}

// Promise 11.3: a sweep leaves what one sweep below the later time leaves, and a second one takes no more.
func TestSweepsOneByOne(t *testing.T) {
	m := newMaker(6)
	for range 300 {
		l := m.chain(8)
		for early := -1; early < 30; early += 1 + m.IntN(3) {
			first, _ := Sweep(l, early)
			swept(t, first, early, first...)
			for late := early; late < 30; late += 1 + m.IntN(3) {
				swept(t, first, late, sweepByWords(l, late)...)
			}
		}
	}
}

// P1: no call panics, whatever it is given.
func TestWildArguments(t *testing.T) {
	m := newMaker(7)
	wild := []int{math.MinInt, math.MinInt + 1, -1 << 50, -1, 0, 1, 2, 1 << 50, 1<<50 + 1, math.MaxInt - 1, math.MaxInt}
	for range 4000 {
		l := make([]api.Version, m.IntN(6))
		for i := range l {
			l[i] = api.Version{Ts: wild[m.IntN(len(wild))], Shard: full(m.IntN(2) * m.IntN(3000)), Dead: m.IntN(3) == 0}
		}
		n := wild[m.IntN(len(wild))]
		Check(l)
		Add(l, api.Version{Ts: n, Shard: full(m.IntN(3000)), Dead: m.IntN(3) == 0})
		At(l, n)
		Sweep(l, n)
		Last(l)
	}
	mayNot(t, make([]api.Version, 1<<20), -1, api.ErrLong)
}

// R3: a chain that is nil and one that is empty are the same.
func TestNilAndEmpty(t *testing.T) {
	for _, l := range [][]api.Version{nil, {}, make([]api.Version, 0, 5), example()[:0]} {
		may(t, l, 0)
		counts(t, l, 5, api.Version{})
		swept(t, l, 5)
		added(t, l, live(5, "x"))
		unadded(t, l, api.Version{}, api.ErrRange)
	}
}

// R4: a chain that is handed in stays, and what lies behind its length is neither read nor written.
func TestChainStays(t *testing.T) {
	room := append(example(), live(3, "behind"), api.Version{Ts: -1, Shard: "far behind", Dead: true})
	kept := slices.Clone(room)
	l := room[:3]
	for range 2 {
		byWords(t, l)
		added(t, l, live(10, "x"))
		unadded(t, l, live(9, "x"), api.ErrOld)
		byWords(t, room[:2])
		added(t, room[:2], live(7, "x"))
		added(t, room[:0], live(1, "x"))
		mayNot(t, room[:4], 3, api.ErrOld)
		mayNot(t, room[3:], 1, api.ErrRange)
		if !slices.Equal(room, kept) {
			t.Fatal(told(room))
		}
	}
	full := longChain(topItems + 1)
	may(t, full[:topItems], 10*topItems)
}

// shares tells whether two texts lie, in part, in the same memory.
func shares(a, b string) bool {
	x, y := uintptr(unsafe.Pointer(unsafe.StringData(a))), uintptr(unsafe.Pointer(unsafe.StringData(b)))
	return x < y+uintptr(len(b)) && y < x+uintptr(len(a))
}

// R4: no shard that is answered shares its memory with what was handed in, or with another answer.
func TestShardsAreNew(t *testing.T) {
	given := []api.Version{live(2, full(9)), live(5, full(2000)), live(9, full(3))}
	v := live(12, full(50))
	l := append(slices.Clone(given), v)
	for range 2 {
		more, _ := Add(given, v)
		left, _ := Sweep(given, 6)
		all, _ := Sweep(given, 0)
		at, _, _ := At(given, 6)
		l = slices.Concat(l, more, left, all, []api.Version{at})
	}
	if len(l) != 4+2*(4+2+3+1) {
		t.Fatal(len(l))
	}
	for i, a := range l {
		for j, b := range l[:i] {
			if shares(a.Shard, b.Shard) {
				t.Errorf("answer %d shares its memory with %d", i, j)
			}
		}
	}
}

// R4: chains that are answered are new, spare room too: whoever changes one changes neither what was handed in nor another answer.
func TestListsAreNew(t *testing.T) {
	given := example()
	calls := []func() []api.Version{
		func() []api.Version { l, _ := Add(given, live(10, "x")); return l },
		func() []api.Version { l, _ := Add(given[:2], live(10, "x")); return l },
		func() []api.Version { l, _ := Add(given[:0], live(10, "x")); return l },
		func() []api.Version { l, _ := Sweep(given, 0); return l },
		func() []api.Version { l, _ := Sweep(given, 6); return l },
		func() []api.Version { l, _ := Sweep(given, 9); return l },
		func() []api.Version { l, _ := Sweep(given[:2], 6); return l },
	}
	for i, call := range calls {
		first, second := call(), call()
		want := slices.Clone(first)
		room := first[:cap(first)]
		for j := range room {
			room[j] = live(77, "changed")
		}
		if !slices.Equal(second, want) || !slices.Equal(call(), want) || !slices.Equal(given, example()) {
			t.Errorf("call %d: %s, %s; not %s", i, told(second), told(given), told(want))
		}
	}
}

// R4: a chain that is changed behind the call does not change what was answered.
func TestChainIsNotKept(t *testing.T) {
	given := example()
	more, _ := Add(given, live(10, "x"))
	left, _ := Sweep(given, 6)
	clear(given)
	if !slices.Equal(more, append(example(), live(10, "x"))) || !slices.Equal(left, example()[1:]) {
		t.Error(told(more), told(left))
	}
}

// R7: the same call tells the same, whatever was asked between.
func TestSameCallSameAnswer(t *testing.T) {
	for range 3 {
		for _, l := range chains()[:14] {
			byWords(t, l)
			mayNot(t, append(slices.Clone(l), api.Version{}), len(l), api.ErrRange)
		}
	}
}
