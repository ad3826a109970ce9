package sector

import (
	"math"
	"strings"
	"testing"

	"corncrib/api"
)

// The chapter's example.
func TestExample(t *testing.T) {
	d := made(t, 1)
	write(t, d, 0, full('a'))
	flush(t, d)
	write(t, d, 0, full('b'))
	d.Crash(67)
	holds(t, d, "bbb"+strings.Repeat("a", 61))
}

// Promise 9.1: 1 sector, 2048, and one further on each side.
func TestHowManySectors(t *testing.T) {
	for _, n := range []int{1, 2, 3, 64, 2047, 2048} {
		if d := made(t, n); d.Size() != n {
			t.Errorf("%d sectors; not %d", d.Size(), n)
		}
	}
	for _, n := range []int{0, -1, 2049, 2050, 4096, -2048, 1<<32 + 1, math.MinInt, math.MaxInt} {
		if d, e := New(n); d != nil || e != api.ErrRange {
			t.Errorf("%d sectors: %d", n, e)
		}
	}
}

// Promise 9.1: a new device has bytes 0 alone, nothing in the cache, no fuse, and is up.
func TestNewDevice(t *testing.T) {
	for _, n := range []int{1, 2, 2048} {
		d := made(t, n)
		for at := range n {
			if s, e := d.Read(at); s != strings.Repeat("\x00", 64) || e != api.OK {
				t.Errorf("%d of %d: %d, %q", at, n, e, s)
			}
		}
		isUp(t, d)
	}
}

// Promise 9.1: how many sectors there are hangs on nothing that is done.
func TestSizeStays(t *testing.T) {
	d := made(t, 5)
	for _, do := range []func(){
		func() { d.Write(4, full('a')) },
		func() { d.Flush() },
		func() { d.Write(1, full('b')) },
		func() { d.Crash(1) },
		func() { d.Fuse(1) },
		func() { d.Flush() },
		func() { d.Wipe() },
	} {
		do()
		if d.Size() != 5 {
			t.Errorf("%d sectors", d.Size())
		}
	}
}

// Promise 9.1: the first sector, the last one, and one further on each side.
func TestWhichSectors(t *testing.T) {
	for _, n := range []int{1, 2, 7, 2048} {
		d := made(t, n)
		for _, at := range []int{0, n - 1} {
			write(t, d, at, full('a'))
			if s, e := d.Read(at); s != full('a') || e != api.OK {
				t.Errorf("%d of %d: %d, %q", at, n, e, s)
			}
		}
		had := d.Dirty()
		for _, at := range []int{-1, n, n + 1, -n, 4096, 1 << 32, math.MinInt, math.MaxInt} {
			if s, e := d.Read(at); s != "" || e != api.ErrRange {
				t.Errorf("read %d of %d: %d, %q", at, n, e, s)
			}
			for _, text := range []string{full('b'), "", "b", full('b') + "b"} {
				told(t, "write", d.Write(at, text), api.ErrRange)
			}
		}
		dirty(t, d, had)
		holds(t, d, full('a'))
	}
}

// Promise 9.1: a text of 64 bytes, and of any other number.
func TestTextLengths(t *testing.T) {
	d := made(t, 2)
	for n := range 200 {
		text := strings.Repeat("x", n)
		want := api.ErrForm
		if n == 64 {
			want = api.OK
		}
		told(t, "write", d.Write(0, text), want)
		told(t, "write", d.Write(1, text), want)
		if n == 63 {
			dirty(t, d, 0)
		}
	}
	for _, text := range []string{strings.Repeat("é", 64), strings.Repeat("é", 33), strings.Repeat("x", 1<<16)} {
		told(t, "write", d.Write(0, text), api.ErrForm)
	}
	holds(t, d, full('x'), full('x'))
	write(t, d, 0, strings.Repeat("é", 32))
	holds(t, d, strings.Repeat("é", 32), full('x'))
}

// Promise 9.1: what is refused has changed nothing: neither the cache nor the device.
func TestRefusedWrites(t *testing.T) {
	d := made(t, 3)
	write(t, d, 0, full('a'))
	flush(t, d)
	write(t, d, 1, full('b'))
	for range 3 {
		for _, text := range []string{"", full('z')[:63], full('z') + "z"} {
			for at := range 3 {
				told(t, "write", d.Write(at, text), api.ErrForm)
			}
			told(t, "write", d.Write(3, text), api.ErrRange)
		}
		told(t, "write", d.Write(-1, full('z')), api.ErrRange)
	}
	dirty(t, d, 1)
	holds(t, d, full('a'), full('b'), full(0))
	flush(t, d)
	holds(t, d, full('a'), full('b'), full(0))
	d.Crash()
	holds(t, d, full('a'), full('b'), full(0))
}

// Promise 9.1: bytes of every kind are read as they were written, ahead of a flush and behind it, and behind a crash.
func TestAnyBytes(t *testing.T) {
	d := made(t, 4)
	all := ""
	for b := range 256 {
		all += string([]byte{byte(b)})
	}
	l := []string{all[:64], all[64:128], all[128:192], all[192:]}
	for at, text := range l {
		write(t, d, at, text)
	}
	holds(t, d, l...)
	flush(t, d)
	holds(t, d, l...)
	d.Crash()
	holds(t, d, l...)
}

// Promise 9.1: what is read is what is in the cache, else what is on the device.
func TestReadAheadOfFlushAndBehind(t *testing.T) {
	d := made(t, 3)
	write(t, d, 1, full('a'))
	holds(t, d, full(0), full('a'), full(0))
	flush(t, d)
	holds(t, d, full(0), full('a'), full(0))
	write(t, d, 2, full('b'))
	write(t, d, 1, full('c'))
	holds(t, d, full(0), full('c'), full('b'))
	flush(t, d)
	holds(t, d, full(0), full('c'), full('b'))
}

// Promise 9.1: of what was written to a sector between two flushes the last counts, though it be bytes 0, or what was there.
func TestWrittenTwice(t *testing.T) {
	for _, last := range []byte{'c', 'a', 0} {
		for _, pick := range []int{0, 1, 5} {
			d := made(t, 2)
			write(t, d, 0, full('a'))
			flush(t, d)
			write(t, d, 0, full('b'))
			write(t, d, 1, full('d'))
			write(t, d, 0, full(last))
			dirty(t, d, 2)
			holds(t, d, full(last), full('d'))
			d.Crash(pick, 1)
			holds(t, d, torn([]int{0, 64, 2, 3, 4, 5}[pick], last, 'a'), full('d'))
		}
		d := made(t, 1)
		write(t, d, 0, full('b'))
		write(t, d, 0, full(last))
		flush(t, d)
		holds(t, d, full(last))
		d.Crash(1, 1)
		holds(t, d, full(last))
	}
}

// Promise 9.1: a flush puts all of the cache onto the device, and none is in it then; one of an empty cache is OK.
func TestFlush(t *testing.T) {
	d := made(t, 2048)
	flush(t, d)
	for at := range 2048 {
		write(t, d, 2047-at, full(byte(at)))
	}
	dirty(t, d, 2048)
	flush(t, d)
	dirty(t, d, 0)
	flush(t, d)
	d.Crash()
	for at := range 2048 {
		if s, e := d.Read(at); s != full(byte(2047-at)) || e != api.OK {
			t.Fatalf("sector %d: %d, %q", at, e, s)
		}
	}
}

// Promise 9.2: how many sectors are in the cache: each once, however often it was written, though it has what was there.
func TestDirty(t *testing.T) {
	d := made(t, 8)
	dirty(t, d, 0)
	for i, at := range []int{3, 3, 0, 7, 0, 3, 5} {
		write(t, d, at, full(0))
		dirty(t, d, []int{1, 1, 2, 3, 3, 3, 4}[i])
	}
	holds(t, d, full(0), full(0), full(0), full(0)) // a read puts nothing in
	dirty(t, d, 4)
	flush(t, d)
	dirty(t, d, 0)
	write(t, d, 3, full('x'))
	dirty(t, d, 1)
	d.Crash()
	dirty(t, d, 0)
	write(t, d, 3, full('x'))
	d.Wipe()
	dirty(t, d, 0)
}

// Promise 9.2: of a device that is wiped all bytes are 0, those in the cache and those on the device.
func TestWipe(t *testing.T) {
	for _, n := range []int{1, 3, 2048} {
		d := made(t, n)
		for at := range n {
			write(t, d, at, full('a'))
		}
		flush(t, d)
		write(t, d, n-1, full('b'))
		write(t, d, 0, full('c'))
		d.Wipe()
		for range 2 {
			dirty(t, d, 0)
			for at := range n {
				if s, e := d.Read(at); s != full(0) || e != api.OK {
					t.Fatalf("%d of %d: %d, %q", at, n, e, s)
				}
			}
			d.Crash(1, 1, 1)
		}
		write(t, d, 0, full('d'))
		d.Crash(3)
		holds(t, d, torn(3, 'd', 0))
		isUp(t, d)
	}
}
