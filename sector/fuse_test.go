package sector

import (
	"math"
	"testing"

	"corncrib/api"
)

// Promise 9.2: a fuse of 0, 1, 2, 2^20, and one further on each side.
func TestFuseNumbers(t *testing.T) {
	d := made(t, 1)
	for _, n := range []int{0, 1, 2, 3, 64, 1<<20 - 1, 1 << 20, 0} {
		fuse(t, d, n)
	}
	for _, n := range []int{-1, -2, 1<<20 + 1, 1 << 21, 1 << 32, 1<<32 + 1, -1 << 20, math.MinInt, math.MaxInt} {
		told(t, "fuse", d.Fuse(n), api.ErrRange)
	}
	isUp(t, d)
}

// Promise 9.2: a fuse that is refused leaves the one that there was.
func TestFuseRefused(t *testing.T) {
	d := made(t, 1)
	fuse(t, d, 3)
	write(t, d, 0, full('a'))
	told(t, "fuse", d.Fuse(-1), api.ErrRange)
	told(t, "fuse", d.Fuse(1<<20+1), api.ErrRange)
	write(t, d, 0, full('b'))
	told(t, "write", d.Write(0, full('c')), api.ErrDown)
	allDown(t, d)
}

// Promise 9.2: the n-th write or flush is not done, and those ahead of it are.
func TestFuseCounts(t *testing.T) {
	for n := 1; n <= 12; n++ {
		for mix := range 1 << n {
			d, w := made(t, 2), newTwin(2)
			fuse(t, d, n)
			for i := range n {
				text, e := full(byte('a'+i)), api.Errno(0)
				if mix>>i&1 == 1 {
					e = d.Flush()
				} else {
					e = d.Write(i%2, text)
				}
				if i == n-1 {
					told(t, "the last", e, api.ErrDown)
					break
				}
				told(t, "one ahead", e, api.OK)
				if mix>>i&1 == 1 {
					w.flush()
				} else {
					w.write(i%2, text)
				}
			}
			dirty(t, d, w.dirty())
			told(t, "flush", d.Flush(), api.ErrDown)
			d.Crash(1, 2)
			w.crash(1, 2)
			w.alike(t, d)
		}
	}
}

// Promise 9.2: the greatest fuse is through when it says.
func TestGreatestFuse(t *testing.T) {
	for _, n := range []int{1<<20 - 1, 1 << 20} {
		d := made(t, 1)
		fuse(t, d, n)
		for i := range n - 1 {
			if e := d.Flush(); e != api.OK {
				t.Fatalf("flush %d: %d", i+1, e)
			}
		}
		told(t, "the last", d.Flush(), api.ErrDown)
		allDown(t, d)
	}
}

// Promises 9.1, 9.2: a write through which the device is down is not in the cache, neither anew nor in the place of an earlier one.
func TestThroughAtAWrite(t *testing.T) {
	for _, pick := range []int{0, 1, 20} {
		d := made(t, 3)
		write(t, d, 1, full('a'))
		write(t, d, 0, full('b'))
		fuse(t, d, 1)
		told(t, "write", d.Write(1, full('c')), api.ErrDown)
		dirty(t, d, 2)
		allDown(t, d)
		d.Crash(1, pick, 1)
		holds(t, d, full('b'), torn([]int{0, 64, 20}[min(pick, 2)], 'a', 0), full(0))
		isUp(t, d)

		fuse(t, d, 1)
		told(t, "write", d.Write(2, full('d')), api.ErrDown)
		dirty(t, d, 0)
		d.Crash(pick, pick, pick)
		holds(t, d, full('b'), torn([]int{0, 64, 20}[min(pick, 2)], 'a', 0), full(0))
	}
}

// Promises 9.1, 9.2: a flush through which the device is down puts nothing onto it; all is in the cache still.
func TestThroughAtAFlush(t *testing.T) {
	for _, empty := range []bool{true, false} {
		d := made(t, 4)
		write(t, d, 0, full('a'))
		flush(t, d)
		if !empty {
			write(t, d, 3, full('d'))
			write(t, d, 0, full('b'))
			write(t, d, 2, full('c'))
		}
		fuse(t, d, 1)
		had := d.Dirty()
		told(t, "flush", d.Flush(), api.ErrDown)
		dirty(t, d, had)
		allDown(t, d)
		dirty(t, d, had)
		d.Crash(30, 0, 1)
		if empty {
			holds(t, d, full('a'), full(0), full(0), full(0))
		} else {
			holds(t, d, torn(30, 'b', 'a'), full(0), full(0), full('d'))
		}
		isUp(t, d)
	}
}

// Promise 9.2: what is refused for its arguments, and what is no write nor flush, does not count.
func TestWhatDoesNotCount(t *testing.T) {
	d := made(t, 2)
	fuse(t, d, 2)
	for range 5 {
		told(t, "write", d.Write(-1, full('x')), api.ErrRange)
		told(t, "write", d.Write(2, full('x')), api.ErrRange)
		told(t, "write", d.Write(2, "x"), api.ErrRange)
		told(t, "write", d.Write(0, ""), api.ErrForm)
		told(t, "write", d.Write(1, full('x')+"x"), api.ErrForm)
		told(t, "fuse", d.Fuse(-1), api.ErrRange)
		holds(t, d, full(0), full(0))
		d.Read(2)
		dirty(t, d, 0)
		d.Size()
	}
	write(t, d, 0, full('a'))
	told(t, "write", d.Write(0, "short"), api.ErrForm) // nor does it end the fuse
	told(t, "write", d.Write(5, full('x')), api.ErrRange)
	holds(t, d, full('a'))
	told(t, "flush", d.Flush(), api.ErrDown)
	told(t, "write", d.Write(0, "short"), api.ErrDown)
	told(t, "write", d.Write(5, full('x')), api.ErrDown)
}

// Promise 9.2: a fuse that is laid anew counts from then on; 0 takes it out.
func TestFuseAnew(t *testing.T) {
	for first := 2; first < 6; first++ {
		for second := range 6 {
			d := made(t, 1)
			fuse(t, d, first)
			write(t, d, 0, full('a'))
			fuse(t, d, second)
			for i := 1; i <= 20; i++ { // the last one is a flush
				want := api.OK
				if second > 0 && i >= second {
					want = api.ErrDown
				}
				if i%2 == 0 {
					told(t, "flush", d.Flush(), want)
				} else {
					told(t, "write", d.Write(0, full('b')), want)
				}
			}
			if second == 0 {
				isUp(t, d)
			} else {
				allDown(t, d)
			}
		}
	}
}

// Promises 9.1, 9.2: a device that is down stays so, whatever is asked, until a crash or Wipe; behind that it is without a fuse.
func TestDownUntil(t *testing.T) {
	for i, up := range []func(d *Device){
		func(d *Device) { d.Crash() },
		func(d *Device) { d.Crash(0, 1, 2) },
		func(d *Device) { d.Wipe() },
	} {
		d := made(t, 3)
		write(t, d, 2, full('a'))
		flush(t, d)
		write(t, d, 0, full('b'))
		fuse(t, d, 2)
		write(t, d, 1, full('c'))
		told(t, "write", d.Write(0, full('d')), api.ErrDown)
		for range 10 {
			allDown(t, d)
			dirty(t, d, 2)
			if d.Size() != 3 {
				t.Errorf("%d sectors", d.Size())
			}
		}
		up(d)
		dirty(t, d, 0)
		want := [][]string{{full(0), full(0), full('a')}, {full(0), full('c'), full('a')}, {full(0), full(0), full(0)}}[i]
		holds(t, d, want...)
		isUp(t, d)
		holds(t, d, want...)
		fuse(t, d, 1)
		told(t, "flush", d.Flush(), api.ErrDown)
		up(d)
		isUp(t, d)
	}
}

// Promise 9.2: Wipe takes the fuse out, whether or not it is through.
func TestWipeTakesTheFuseOut(t *testing.T) {
	for n := range 4 {
		d := made(t, 2)
		fuse(t, d, n)
		d.Write(0, full('a'))
		d.Wipe()
		holds(t, d, full(0), full(0))
		isUp(t, d)
	}
}
