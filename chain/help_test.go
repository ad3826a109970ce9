package chain

import (
	"math"
	"math/rand/v2"
	"slices"
	"strconv"
	"strings"
	"testing"

	"corncrib/api"
)

// The ends of what chains may have, as chapter 11 and the limits tell them.
const (
	topItems = 1024
	topStamp = 1125899906842624
	topShard = 2052
)

// full answers a shard of so many bytes.
func full(n int) string { return strings.Repeat("s", n) }

// live and dead answer versions.
func live(ts int, shard string) api.Version { return api.Version{Ts: ts, Shard: shard} }

func dead(ts int) api.Version { return api.Version{Ts: ts, Dead: true} }

// chainOf answers a chain of these times; those below 0 stand for dead versions of the times above 0.
func chainOf(times ...int) []api.Version {
	var l []api.Version
	for _, ts := range times {
		if ts < 0 {
			l = append(l, dead(-ts))
		} else {
			l = append(l, live(ts, "shard "+strconv.Itoa(ts)))
		}
	}
	return l
}

// longChain answers a chain of n versions at the times 10, 20, 30 and so on, of which each third is dead.
func longChain(n int) []api.Version {
	times := make([]int, n)
	for i := range times {
		times[i] = 10 * (i + 1)
		if i%3 == 2 {
			times[i] *= -1
		}
	}
	return chainOf(times...)
}

// example answers the chapter's chain: at 2, at 5, and dead at 9.
func example() []api.Version { return chainOf(2, 5, -9) }

// chains answers some that may be: of no, one, several, and of as many versions as there may be.
func chains() [][]api.Version {
	return [][]api.Version{
		nil, chainOf(1), chainOf(-1), chainOf(7), chainOf(topStamp), chainOf(-topStamp), chainOf(1, topStamp),
		example(), chainOf(1, 2, 3), chainOf(-1, -2, -3), chainOf(-3, 4, -5, 6), chainOf(4, -5, 6, -topStamp),
		{live(3, ""), live(4, full(topShard)), dead(5), live(6, "\x00")},
		longChain(100), longChain(topItems - 1), longChain(topItems),
	}
}

// times answers those of which a chain is asked: its versions', those beside them, and those far off.
func times(l []api.Version) []int {
	out := []int{math.MinInt, math.MinInt + 1, -1 << 50, -2, -1, 0, 1, 2, topStamp - 1, topStamp, topStamp + 1, math.MaxInt - 1, math.MaxInt}
	for i, v := range l {
		if i < 40 || i > len(l)-40 {
			out = append(out, v.Ts-1, v.Ts, v.Ts+1)
		}
	}
	return out
}

// checkByWords tells of a chain what chapter 11's words say of it; it shares nothing with the program.
func checkByWords(l []api.Version) (int, api.Errno) {
	if len(l) > topItems {
		return -1, api.ErrLong
	}
	for i, v := range l {
		switch {
		case v.Ts <= 0 || v.Ts > topStamp:
			return i, api.ErrRange
		case len(v.Shard) > topShard:
			return i, api.ErrLong
		case v.Dead && len(v.Shard) != 0:
			return i, api.ErrShape
		case i > 0 && l[i-1].Ts >= v.Ts:
			return i, api.ErrOld
		}
	}
	return 0, api.OK
}

// atByWords answers which version of a chain that may be counts of a time: that of the greatest Ts that is not above it.
func atByWords(l []api.Version, t int) (api.Version, bool) {
	greatest := -1
	for i, v := range l {
		if v.Ts <= t && (greatest < 0 || v.Ts > l[greatest].Ts) {
			greatest = i
		}
	}
	if greatest < 0 {
		return api.Version{}, false
	}
	return l[greatest], true
}

// sweepByWords answers what is left of a chain that may be.
func sweepByWords(l []api.Version, t int) []api.Version {
	var out []api.Version
	counts, _ := atByWords(l, t)
	for _, v := range l {
		if v.Ts > t || v.Ts == counts.Ts && !v.Dead {
			out = append(out, v)
		}
	}
	return out
}

// told writes a chain so that a fault can be read.
func told(l []api.Version) string {
	s := strconv.Itoa(len(l)) + ":"
	for _, v := range l[:min(len(l), 8)] {
		s += " " + strconv.Itoa(v.Ts) + " " + strconv.Quote(v.Shard[:min(len(v.Shard), 20)])
		if v.Dead {
			s += " dead"
		}
	}
	return s
}

// asked fails, unless Check tells this of a chain.
func asked(t *testing.T, l []api.Version, at int, e api.Errno) {
	t.Helper()
	if gotAt, got := Check(l); gotAt != at || got != e {
		t.Errorf("%s: Check tells %d, %d; not %d, %d", told(l), gotAt, got, at, e)
	}
}

// mayNot fails, unless Check tells this fault of a chain, and all other calls the same one, with nothing beside it.
func mayNot(t *testing.T, l []api.Version, at int, e api.Errno) {
	t.Helper()
	asked(t, l, at, e)
	for _, v := range []api.Version{live(topStamp, "x"), {}, live(1, full(topShard+1))} {
		unadded(t, l, v, e)
	}
	for _, time := range []int{math.MinInt, -1, 0, 5, topStamp, math.MaxInt} {
		if v, ok, got := At(l, time); v != (api.Version{}) || ok || got != e {
			t.Errorf("%s: At(%d) tells %s, %v, %d; not %d", told(l), time, told([]api.Version{v}), ok, got, e)
		}
		if left, got := Sweep(l, time); len(left) != 0 || got != e {
			t.Errorf("%s: Sweep(%d) tells %s, %d; not %d", told(l), time, told(left), got, e)
		}
	}
	if ts, got := Last(l); ts != 0 || got != e {
		t.Errorf("%s: Last tells %d, %d; not %d", told(l), ts, got, e)
	}
}

// may fails, unless a chain may be, and its last version is of this time.
func may(t *testing.T, l []api.Version, last int) {
	t.Helper()
	asked(t, l, 0, api.OK)
	if ts, e := Last(l); ts != last || e != api.OK {
		t.Errorf("%s: Last tells %d, %d; not %d", told(l), ts, e, last)
	}
}

// added answers the chain with a version behind, and fails, unless it is just that.
func added(t *testing.T, l []api.Version, v api.Version) []api.Version {
	t.Helper()
	want := append(slices.Clone(l), v)
	out, e := Add(l, v)
	if !slices.Equal(out, want) || e != api.OK {
		t.Errorf("%s: Add of %s tells %s, %d", told(l), told([]api.Version{v}), told(out), e)
	}
	return out
}

// unadded fails, unless a version is not added, with that error, and nothing beside it.
func unadded(t *testing.T, l []api.Version, v api.Version, want api.Errno) {
	t.Helper()
	if out, e := Add(l, v); len(out) != 0 || e != want {
		t.Errorf("%s: Add of %s tells %s, %d; not %d", told(l), told([]api.Version{v}), told(out), e, want)
	}
}

// counts fails, unless this version counts of a time; the zero one stands for none.
func counts(t *testing.T, l []api.Version, time int, want api.Version) {
	t.Helper()
	if v, ok, e := At(l, time); v != want || ok != (want.Ts != 0) || e != api.OK {
		t.Errorf("%s: At(%d) tells %s, %v, %d; not %s", told(l), time, told([]api.Version{v}), ok, e, told([]api.Version{want}))
	}
}

// swept answers what is left of a chain, and fails, unless it is just these versions.
func swept(t *testing.T, l []api.Version, time int, want ...api.Version) []api.Version {
	t.Helper()
	left, e := Sweep(l, time)
	if !slices.Equal(left, want) || e != api.OK {
		t.Errorf("%s: Sweep(%d) tells %s, %d; not %s", told(l), time, told(left), e, told(want))
	}
	return left
}

// byWords fails, unless all calls tell of a chain what the words say.
func byWords(t *testing.T, l []api.Version) {
	t.Helper()
	at, e := checkByWords(l)
	if e != api.OK {
		mayNot(t, l, at, e)
		return
	}
	last := 0
	for _, v := range l {
		last = max(last, v.Ts)
	}
	may(t, l, last)
	for _, time := range times(l) {
		v, _ := atByWords(l, time)
		counts(t, l, time, v)
		swept(t, l, time, sweepByWords(l, time)...)
	}
}

// maker makes what looks like chance, and is the same each time.
type maker struct{ *rand.Rand }

func newMaker(seed uint64) maker { return maker{rand.New(rand.NewPCG(seed, 11))} }

// version answers one that may be, of a time.
func (m maker) version(ts int) api.Version {
	if m.IntN(3) == 0 {
		return dead(ts)
	}
	b := make([]byte, m.IntN(30))
	for i := range b {
		b[i] = byte(m.IntN(256))
	}
	return live(ts, string(b))
}

// chain answers one that may be, of up to so many versions, some of them close to each other.
func (m maker) chain(most int) []api.Version {
	var l []api.Version
	ts := 0
	for range m.IntN(most + 1) {
		ts += 1 + m.IntN(1+m.IntN(6))
		l = append(l, m.version(ts))
	}
	return l
}
