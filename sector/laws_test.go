package sector

import (
	"math"
	"slices"
	"strings"
	"testing"
	"unsafe"

	"corncrib/api"
)

// Promises 9.1, 9.2: whatever is done, a device tells what the chapter's words make of it.
func TestAsByWords(t *testing.T) {
	m := newMaker(1)
	for _, size := range []int{1, 2, 3, 5, 9, 20} {
		for range 60 {
			d, w := made(t, size), newTwin(size)
			for range 120 {
				m.step(t, d, w)
				w.alike(t, d)
			}
		}
	}
}

// startsAs tells whether a text is a beginning of one, and behind it another one's bytes.
func startsAs(text, one, other string) bool {
	for n := range len(text) + 1 {
		if text == one[:n]+other[n:] {
			return true
		}
	}
	return false
}

// Promise 9.3: behind any crash there is what was flushed; where a sector was written since, a beginning of that, and behind it what it had.
func TestFlushedIsThere(t *testing.T) {
	m := newMaker(2)
	for range 1500 {
		size := 1 + m.IntN(12)
		d, w := made(t, size), newTwin(size)
		for range m.IntN(9) { // something that was there ahead of it
			m.step(t, d, w)
		}
		d.Crash(m.picks(size)...)
		for range m.IntN(2 * size) {
			write(t, d, m.IntN(size), m.text(64))
		}
		flush(t, d)
		had, wrote := make([]string, size), map[int]string{}
		for at := range size {
			had[at], _ = d.Read(at)
		}
		fuse(t, d, m.IntN(2*size))
		for range m.IntN(2 * size) {
			at, text := m.IntN(size), m.text(64)
			if d.Write(at, text) == api.OK {
				wrote[at] = text
			}
		}
		d.Crash(m.picks(size + 1)...)
		for at := range size {
			s, e := d.Read(at)
			text, ok := wrote[at]
			if e != api.OK || !ok && s != had[at] || ok && !startsAs(s, text, had[at]) {
				t.Errorf("sector %d of %d: %d, %q; had %q, written %q", at, size, e, s, had[at], text)
			}
		}
	}
}

// Promise 9.3: so it is where a flush was under way, that is not done.
func TestFlushUnderWay(t *testing.T) {
	m := newMaker(3)
	for range 500 {
		size := 1 + m.IntN(12)
		d := made(t, size)
		var had, wrote []string
		for at := range size {
			had, wrote = append(had, m.text(64)), append(wrote, m.text(64))
			write(t, d, at, had[at])
		}
		flush(t, d)
		for _, at := range m.Perm(size) {
			write(t, d, at, wrote[at])
		}
		fuse(t, d, 1)
		told(t, "flush", d.Flush(), api.ErrDown)
		d.Crash(m.picks(size)...)
		for at := range size {
			if s, e := d.Read(at); e != api.OK || !startsAs(s, wrote[at], had[at]) {
				t.Errorf("sector %d of %d: %d, %q", at, size, e, s)
			}
		}
	}
}

// P1: no call panics, whatever it is given, in whatever state.
func TestWildArguments(t *testing.T) {
	m := newMaker(4)
	wild := []int{math.MinInt, math.MinInt + 1, -1 << 32, -65, -64, -1, 0, 1, 2, 63, 64, 65, 1 << 20, 1<<20 + 1, 1 << 32, math.MaxInt - 1, math.MaxInt}
	for _, size := range wild {
		New(size)
	}
	d := made(t, 3)
	for range 20000 {
		n, k := wild[m.IntN(len(wild))], wild[m.IntN(len(wild))]
		switch m.IntN(8) {
		case 0:
			d.Read(n)
		case 1:
			d.Write(n, strings.Repeat("x", m.IntN(130)))
		case 2:
			d.Flush()
		case 3:
			d.Fuse(n)
		case 4:
			d.Crash(n, k)
		case 5:
			d.Crash(make([]int, m.IntN(3000))...)
		case 6:
			d.Write(m.IntN(3), full('y'))
		default:
			d.Wipe()
		}
	}
	d.Crash()
	isUp(t, d)
}

// R3: no pick, nil and an empty list are the same.
func TestNoPicks(t *testing.T) {
	for _, crash := range []func(d *Device){func(d *Device) { d.Crash() }, func(d *Device) { d.Crash(nil...) }, func(d *Device) { d.Crash([]int{}...) }} {
		d := made(t, 2)
		write(t, d, 1, full('a'))
		crash(d)
		holds(t, d, full(0), full(0))
		isUp(t, d)
	}
}

// R4: picks stay as they are, and those behind the list's length are not taken.
func TestPicksStay(t *testing.T) {
	given := []int{65, -1, 1, 1, 1}
	kept := slices.Clone(given)
	d := made(t, 4)
	for at := range 4 {
		write(t, d, 3-at, full('a'))
	}
	d.Crash(given[:2]...)
	holds(t, d, torn(1, 'a', 0), torn(63, 'a', 0), full(0), full(0))
	if !slices.Equal(given, kept) {
		t.Errorf("changed: %v", given)
	}
}

// R4: a text that was written does not change with the bytes that it was made of.
func TestTextIsNotKept(t *testing.T) {
	b := []byte(full('a'))
	text := unsafe.String(unsafe.SliceData(b), len(b))
	d := made(t, 2)
	write(t, d, 0, text)
	flush(t, d)
	write(t, d, 1, text)
	for i := range b {
		b[i] = 'x'
	}
	holds(t, d, full('a'), full('a'))
	d.Crash(1)
	holds(t, d, full('a'), full('a'))
}

// shares tells whether two texts lie, in part, in the same memory.
func shares(a, b string) bool {
	x, y := uintptr(unsafe.Pointer(unsafe.StringData(a))), uintptr(unsafe.Pointer(unsafe.StringData(b)))
	return x < y+uintptr(len(b)) && y < x+uintptr(len(a))
}

// R4: what is read is new memory: it shares none with what was written, with what was read otherwise, or with the device.
func TestAnswersAreNew(t *testing.T) {
	d := made(t, 3)
	l := []string{full('a'), full('b')}
	write(t, d, 0, l[0])
	flush(t, d)
	write(t, d, 1, l[1])
	for range 2 {
		for at := range 3 {
			s, _ := d.Read(at)
			l = append(l, s)
		}
	}
	for i, a := range l {
		for j, b := range l[:i] {
			if shares(a, b) {
				t.Errorf("answer %d shares its memory with %d", i, j)
			}
		}
	}
	kept := make([]string, len(l))
	for i, s := range l {
		kept[i] = strings.Clone(s)
	}
	for at := range 3 {
		write(t, d, at, full('z'))
	}
	flush(t, d)
	write(t, d, 0, full('y'))
	d.Crash(33)
	d.Wipe()
	if !slices.Equal(l, kept) {
		t.Error("what was read has changed")
	}
}

// R7: two devices of which the same is asked tell the same, whatever is done with others between.
func TestSameCallsSameAnswers(t *testing.T) {
	for seed := range uint64(40) {
		a, b, other := newMaker(seed), newMaker(seed), newMaker(seed+100)
		d, w, x, y := made(t, 6), newTwin(6), made(t, 6), newTwin(6)
		far, farTwin := made(t, 6), newTwin(6)
		for range 100 {
			a.step(t, d, w)
			other.step(t, far, farTwin)
			b.step(t, x, y)
			w.alike(t, d)
			w.alike(t, x)
			farTwin.alike(t, far)
		}
	}
}

// R7: which sectors take which picks does not hang on how the cache is gone through.
func TestPicksEachTime(t *testing.T) {
	for range 200 {
		d := made(t, 30)
		for at := range 30 {
			write(t, d, at*7%30, full('a'))
		}
		var picks []int
		var want []string
		for at := range 30 {
			picks = append(picks, 34+at)
			want = append(want, torn((34+at)%64, 'a', 0))
		}
		d.Crash(picks...)
		holds(t, d, want...)
	}
}
