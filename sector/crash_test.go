package sector

import (
	"math"
	"testing"

	"corncrib/api"
)

// afterPick answers what a sector of a's has behind a crash, to which b's were written.
func afterPick(t *testing.T, pick int) string {
	t.Helper()
	d := made(t, 1)
	write(t, d, 0, full('a'))
	flush(t, d)
	write(t, d, 0, full('b'))
	d.Crash(pick)
	dirty(t, d, 0)
	s, e := d.Read(0)
	told(t, "read", e, api.OK)
	return s
}

// Promise 9.2: what picks make of a sector.
func TestPicks(t *testing.T) {
	for pick, n := range map[int]int{
		0: 0, 1: 64, 2: 2, 3: 3, 32: 32, 62: 62, 63: 63, 64: 0, 65: 1, 66: 2, 127: 63, 128: 0, 129: 1,
		-1: 63, -2: 62, -62: 2, -63: 1, -64: 0, -65: 63, -127: 1, -128: 0,
		1 << 32: 0, 1<<32 + 1: 1, -1 << 32: 0, 1 - 1<<32: 1,
		math.MinInt: 0, math.MinInt + 1: 1, math.MinInt + 63: 63, math.MaxInt: 63, math.MaxInt - 1: 62, math.MaxInt - 62: 1, math.MaxInt - 63: 0,
	} {
		if s := afterPick(t, pick); s != torn(n, 'b', 'a') {
			t.Errorf("pick %d: %q; not %d bytes", pick, s, n)
		}
	}
	for pick := -1000; pick <= 1000; pick++ {
		n := rest64(pick)
		if pick == 1 {
			n = 64
		}
		if s := afterPick(t, pick); s != torn(n, 'b', 'a') {
			t.Errorf("pick %d: %q; not %d bytes", pick, s, n)
		}
	}
}

// Promise 9.2: each sector in the cache takes a pick of its own, by their numbers rising, in whichever order they were written.
func TestPicksByNumbers(t *testing.T) {
	for _, order := range [][]int{{0, 2, 3, 5}, {5, 3, 2, 0}, {3, 0, 5, 2}, {2, 5, 0, 3}, {5, 0, 0, 3, 2, 5}} {
		d := made(t, 6)
		for at := range 6 {
			write(t, d, at, full('a'))
		}
		flush(t, d)
		for _, at := range order {
			write(t, d, at, full('b'))
		}
		d.Crash(1, 10, 0, -1)
		holds(t, d, full('b'), full('a'), torn(10, 'b', 'a'), full('a'), full('a'), torn(63, 'b', 'a'))
	}
}

// Promise 9.2: numbers rise as numbers do, not as words.
func TestPicksOfManySectors(t *testing.T) {
	d := made(t, 2048)
	picks := make([]int, 2048)
	for at := range 2048 {
		write(t, d, (at*1031+7)%2048, full('b'))
		picks[at] = 64 + at%64
	}
	dirty(t, d, 2048)
	d.Crash(picks...)
	for at := range 2048 {
		if s, e := d.Read(at); s != torn(at%64, 'b', 0) || e != api.OK {
			t.Fatalf("sector %d: %d, %q", at, e, s)
		}
	}
}

// Promise 9.2: of fewer picks those that are missing are 0; of more those behind do nothing; none may be.
func TestHowManyPicks(t *testing.T) {
	for n := range 8 {
		d := made(t, 4)
		for at := range 4 {
			write(t, d, at, full('a'))
		}
		flush(t, d)
		for _, at := range []int{3, 1, 0} {
			write(t, d, at, full('b'))
		}
		var picks []int
		for range n {
			picks = append(picks, 1)
		}
		d.Crash(picks...)
		want := []string{full('a'), full('a'), full('a'), full('a')}
		for _, at := range []int{0, 1, 3}[:min(n, 3)] {
			want[at] = full('b')
		}
		holds(t, d, want...)
		dirty(t, d, 0)
	}
	d := made(t, 1)
	write(t, d, 0, full('a'))
	d.Crash([]int{}...)
	holds(t, d, full(0))
	d.Crash(1, 2, 3)
	holds(t, d, full(0))
}

// Promise 9.2: a sector that was flushed takes no pick; nor one that was only read, or whose write was refused.
func TestWhoTakesPicks(t *testing.T) {
	d := made(t, 4)
	write(t, d, 0, full('a'))
	flush(t, d)
	holds(t, d, full('a'), full(0))
	told(t, "write", d.Write(1, "short"), api.ErrForm)
	write(t, d, 3, full('c'))
	write(t, d, 2, full('b'))
	d.Crash(1, 9)
	holds(t, d, full('a'), full(0), full('b'), torn(9, 'c', 0))
}

// Promise 9.2: behind a crash the cache is empty: what was lost is not there at the next flush or crash.
func TestCrashEmptiesTheCache(t *testing.T) {
	d := made(t, 3)
	write(t, d, 0, full('a'))
	write(t, d, 1, full('b'))
	write(t, d, 2, full('c'))
	d.Crash(0, 7, 1)
	want := []string{full(0), torn(7, 'b', 0), full('c')}
	holds(t, d, want...)
	flush(t, d)
	holds(t, d, want...)
	d.Crash(1, 1, 1)
	holds(t, d, want...)
	isUp(t, d)
}

// Promise 9.2: what is torn stays so, and is torn again on what was there then.
func TestTornAgain(t *testing.T) {
	d := made(t, 1)
	write(t, d, 0, full('a'))
	flush(t, d)
	for i, n := range []int{40, 20, 60, 2, 63, 64} {
		write(t, d, 0, full('b'+byte(i)))
		d.Crash(n)
	}
	holds(t, d, "ff"+full('f')[:61]+"a")
	write(t, d, 0, full('z'))
	d.Crash(2)
	holds(t, d, "zz"+full('f')[:61]+"a")
}

// Promise 9.2: a pick of 1 is the whole sector; what was there is gone.
func TestWholeSector(t *testing.T) {
	d := made(t, 1)
	write(t, d, 0, full('a'))
	d.Crash(1)
	write(t, d, 0, full('b'))
	d.Crash(1)
	holds(t, d, full('b'))
	write(t, d, 0, full('c'))
	d.Crash(0)
	holds(t, d, full('b'))
}

// Promise 9.2: a crash takes the fuse out, whether or not it is through.
func TestCrashTakesTheFuseOut(t *testing.T) {
	for n := range 4 {
		d := made(t, 2)
		fuse(t, d, n)
		d.Write(0, full('a'))
		d.Crash()
		isUp(t, d)
	}
}
