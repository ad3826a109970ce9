package sector

import (
	"math"
	"math/big"
	"math/rand/v2"
	"strings"
	"testing"

	"corncrib/api"
)

// full answers a sector's text of one byte.
func full(b byte) string { return strings.Repeat(string([]byte{b}), 64) }

// torn answers a sector's text of some bytes of one, and the rest of another.
func torn(n int, a, b byte) string { return full(a)[:n] + full(b)[n:] }

// made answers a new device.
func made(t *testing.T, sectors int) *Device {
	t.Helper()
	d, e := New(sectors)
	if d == nil || e != api.OK {
		t.Fatalf("%d sectors: %d", sectors, e)
	}
	return d
}

// told fails, unless a call's error is this one.
func told(t *testing.T, what string, e, want api.Errno) {
	t.Helper()
	if e != want {
		t.Errorf("%s: %d; not %d", what, e, want)
	}
}

// write, flush and fuse fail, unless the call is answered OK.
func write(t *testing.T, d *Device, at int, text string) {
	t.Helper()
	if e := d.Write(at, text); e != api.OK {
		t.Errorf("write %d: %d", at, e)
	}
}

func flush(t *testing.T, d *Device) {
	t.Helper()
	told(t, "flush", d.Flush(), api.OK)
}

func fuse(t *testing.T, d *Device, n int) {
	t.Helper()
	told(t, "fuse", d.Fuse(n), api.OK)
}

// holds fails, unless the sectors from 0 on are read as these texts.
func holds(t *testing.T, d *Device, l ...string) {
	t.Helper()
	for at, want := range l {
		if s, e := d.Read(at); s != want || e != api.OK {
			t.Errorf("sector %d: %d, %q; not %q", at, e, s, want)
		}
	}
}

// dirty fails, unless so many sectors are in the cache.
func dirty(t *testing.T, d *Device, want int) {
	t.Helper()
	if n := d.Dirty(); n != want {
		t.Errorf("%d in the cache; not %d", n, want)
	}
}

// allDown fails, unless each call that has an error answers ErrDown, and nothing beside it, with good arguments and with wrong ones.
func allDown(t *testing.T, d *Device) {
	t.Helper()
	for _, at := range []int{0, d.Size() - 1, -1, d.Size(), math.MinInt, math.MaxInt} {
		if s, e := d.Read(at); s != "" || e != api.ErrDown {
			t.Errorf("read %d: %d, %q", at, e, s)
		}
		for _, text := range []string{full('z'), "", full('z') + "z"} {
			told(t, "write", d.Write(at, text), api.ErrDown)
		}
	}
	told(t, "flush", d.Flush(), api.ErrDown)
	for _, n := range []int{0, 1, 1 << 20, 1<<20 + 1, -1, math.MinInt, math.MaxInt} {
		told(t, "fuse", d.Fuse(n), api.ErrDown)
	}
}

// isUp fails, unless the device is up, with nothing in the cache, and without a fuse that is soon through.
func isUp(t *testing.T, d *Device) {
	t.Helper()
	dirty(t, d, 0)
	s, e := d.Read(0)
	told(t, "read", e, api.OK)
	for range 70 {
		told(t, "write", d.Write(0, s), api.OK)
		told(t, "flush", d.Flush(), api.OK)
	}
}

// rest64 is a number modulo 64, from 0 to 63.
func rest64(n int) int {
	return int(new(big.Int).Mod(big.NewInt(int64(n)), big.NewInt(64)).Int64())
}

// entry is one write since the last flush.
type entry struct {
	at   int
	text string
}

// twin is a device as chapter 9's words say it; it shares nothing with the program.
type twin struct {
	on    []string
	wrote []entry
	// left is how many writes and flushes there are ahead of the one that the fuse does not let be done; -1: there is no fuse.
	left int
	dead bool
}

func newTwin(sectors int) *twin {
	w := &twin{on: make([]string, sectors), left: -1}
	w.wipe()
	return w
}

// last answers what was written last to a sector since the last flush.
func (w *twin) last(at int) (text string, ok bool) {
	for _, x := range w.wrote {
		if x.at == at {
			text, ok = x.text, true
		}
	}
	return text, ok
}

func (w *twin) dirty() int {
	n := 0
	for at := range w.on {
		if _, ok := w.last(at); ok {
			n++
		}
	}
	return n
}

func (w *twin) read(at int) (string, api.Errno) {
	switch {
	case w.dead:
		return "", api.ErrDown
	case at < 0 || at >= len(w.on):
		return "", api.ErrRange
	}
	if text, ok := w.last(at); ok {
		return text, api.OK
	}
	return w.on[at], api.OK
}

// through counts a write or a flush down.
func (w *twin) through() bool {
	switch {
	case w.left < 0:
		return false
	case w.left == 0:
		w.dead = true
		return true
	}
	w.left--
	return false
}

func (w *twin) write(at int, text string) api.Errno {
	switch {
	case w.dead:
		return api.ErrDown
	case at < 0 || at >= len(w.on):
		return api.ErrRange
	case len(text) != 64:
		return api.ErrForm
	case w.through():
		return api.ErrDown
	}
	w.wrote = append(w.wrote, entry{at, text})
	return api.OK
}

func (w *twin) flush() api.Errno {
	if w.dead || w.through() {
		return api.ErrDown
	}
	for _, x := range w.wrote {
		w.on[x.at] = x.text
	}
	w.wrote = nil
	return api.OK
}

func (w *twin) fuse(n int) api.Errno {
	switch {
	case w.dead:
		return api.ErrDown
	case n < 0 || n > 1048576:
		return api.ErrRange
	}
	w.left = n - 1
	return api.OK
}

func (w *twin) crash(picks ...int) {
	for at := range w.on {
		text, ok := w.last(at)
		if !ok {
			continue
		}
		pick := 0
		if len(picks) > 0 {
			pick, picks = picks[0], picks[1:]
		}
		switch pick {
		case 0:
		case 1:
			w.on[at] = text
		default:
			n := rest64(pick)
			w.on[at] = text[:n] + w.on[at][n:]
		}
	}
	w.wrote, w.left, w.dead = nil, -1, false
}

func (w *twin) wipe() {
	for at := range w.on {
		w.on[at] = full(0)
	}
	w.wrote, w.left, w.dead = nil, -1, false
}

// alike fails, unless a device tells what its twin tells.
func (w *twin) alike(t *testing.T, d *Device) {
	t.Helper()
	if d.Size() != len(w.on) || d.Dirty() != w.dirty() {
		t.Fatalf("%d sectors, %d in the cache; not %d and %d", d.Size(), d.Dirty(), len(w.on), w.dirty())
	}
	for at := -1; at <= len(w.on); at++ {
		want, wrong := w.read(at)
		if s, e := d.Read(at); s != want || e != wrong {
			t.Fatalf("sector %d: %d, %q; not %d, %q", at, e, s, wrong, want)
		}
	}
}

// maker makes what looks like chance, and is the same each time.
type maker struct{ *rand.Rand }

func newMaker(seed uint64) maker { return maker{rand.New(rand.NewPCG(seed, 9))} }

// text answers so many bytes.
func (m maker) text(n int) string {
	b := make([]byte, n)
	for i := range b {
		b[i] = byte(m.IntN(256))
	}
	return string(b)
}

// picks answers up to so many picks, of all sorts.
func (m maker) picks(most int) []int {
	var l []int
	for range m.IntN(most + 1) {
		near := []int{0, 1, 2, 62, 63, 64, 65, 128, -1, -2, -63, -64, -65, math.MinInt, math.MaxInt, m.IntN(64), m.IntN(1000) - 500, int(m.Uint64())}
		l = append(l, near[m.IntN(len(near))])
	}
	return l
}

// step does one thing with a device, and the same with its twin.
func (m maker) step(t *testing.T, d *Device, w *twin) {
	t.Helper()
	size := d.Size()
	switch m.IntN(12) {
	case 0, 1:
		told(t, "flush", d.Flush(), w.flush())
	case 2:
		n := []int{0, 1, 2, 5, 9, m.IntN(30), 1 << 20, 1<<20 + 1, -1}[m.IntN(9)]
		told(t, "fuse", d.Fuse(n), w.fuse(n))
	case 3:
		picks := m.picks(size + 2)
		d.Crash(picks...)
		w.crash(picks...)
	case 4:
		if m.IntN(8) == 0 {
			d.Wipe()
			w.wipe()
		}
	case 5:
		at, text := m.IntN(size+2)-1, m.text(63+m.IntN(3))
		told(t, "write", d.Write(at, text), w.write(at, text))
	default:
		at, text := m.IntN(size), m.text(64)
		told(t, "write", d.Write(at, text), w.write(at, text))
	}
}
