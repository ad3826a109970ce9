package redo

import (
	"encoding/binary"
	"hash/crc32"
	"math/rand/v2"
	"slices"
	"strings"
	"testing"

	"corncrib/api"
	"corncrib/sector"
)

// frame makes a text's frame by chapter 5's words; it shares nothing with the program.
func frame(text string) string {
	b := binary.LittleEndian.AppendUint16(nil, uint16(len(text)))
	b = append(b, text...)
	return string(binary.LittleEndian.AppendUint32(b, crc32.ChecksumIEEE(b)))
}

// frames makes the frames of texts, one behind the other.
func frames(l ...string) string {
	s := ""
	for _, text := range l {
		s += frame(text)
	}
	return s
}

// headText makes a head's text by chapter 10's words, of any numbers.
func headText(count uint64, area byte, length uint64) string {
	b := binary.BigEndian.AppendUint64([]byte("REDO"), count)
	return string(binary.BigEndian.AppendUint64(append(b, area), length))
}

// headOf makes a head's sector.
func headOf(count uint64, area byte, length uint64) string {
	text := headText(count, area, length)
	return text + text + text + "\x00"
}

// fields reads the numbers of a head's sector.
func fields(s string) (count uint64, area byte, length uint64) {
	b := []byte(s)
	return binary.BigEndian.Uint64(b[4:]), b[12], binary.BigEndian.Uint64(b[13:])
}

// zeros answers so many bytes 0.
func zeros(n int) string { return strings.Repeat("\x00", n) }

// textIn answers the text whose frame has so many bytes.
func textIn(n int) string { return strings.Repeat("t", n-6) }

// full answers a text of so many bytes, whose beginning tells which it is.
func full(n int, which string) string { return (which + strings.Repeat(".", n))[:n] }

// device answers a new one.
func device(t *testing.T, sectors int) *sector.Device {
	t.Helper()
	d, e := sector.New(sectors)
	if e != api.OK {
		t.Fatalf("%d sectors: %d", sectors, e)
	}
	return d
}

// lay writes a sector of a device, and lets it be on it.
func lay(t *testing.T, d *sector.Device, at int, text string) {
	t.Helper()
	told(t, "lay", d.Write(at, text), api.OK)
	told(t, "lay", d.Flush(), api.OK)
}

// layBytes writes bytes into the sectors from one on, with bytes of another kind behind them.
func layBytes(t *testing.T, d *sector.Device, at int, s string) {
	t.Helper()
	for ; s != ""; at++ {
		n := min(64, len(s))
		lay(t, d, at, (s[:n] + strings.Repeat("\xee", 64))[:64])
		s = s[n:]
	}
}

// image answers what is read of all sectors.
func image(t *testing.T, d *sector.Device) []string {
	t.Helper()
	var l []string
	for at := range d.Size() {
		s, e := d.Read(at)
		told(t, "image", e, api.OK)
		l = append(l, s)
	}
	return l
}

// same answers another device with the same sectors, all of them on it.
func same(t *testing.T, d *sector.Device) *sector.Device {
	t.Helper()
	c := device(t, d.Size())
	for at, s := range image(t, d) {
		told(t, "same", c.Write(at, s), api.OK)
	}
	told(t, "same", c.Flush(), api.OK)
	return c
}

// told fails, unless a call's error is this one.
func told(t *testing.T, what string, e, want api.Errno) {
	t.Helper()
	if e != want {
		t.Errorf("%s: %d; not %d", what, e, want)
	}
}

// opened answers the log of a device.
func opened(t *testing.T, d *sector.Device) *Log {
	t.Helper()
	l, e := Open(d)
	if l == nil || e != api.OK {
		t.Fatalf("open: %d", e)
	}
	return l
}

// fresh answers a new device, and its log with some texts, all synced.
func fresh(t *testing.T, sectors int, texts ...string) (*sector.Device, *Log) {
	t.Helper()
	d := device(t, sectors)
	l := opened(t, d)
	if len(texts) > 0 {
		appended(t, l, texts...)
		told(t, "sync", l.Sync(), api.OK)
	}
	return d, l
}

// refused fails, unless the device's log is not opened, with that error, and nothing beside it.
func refused(t *testing.T, what string, d *sector.Device, want api.Errno) {
	t.Helper()
	if l, e := Open(d); l != nil || e != want {
		t.Errorf("%s: %v, %d; not %d", what, l != nil, e, want)
	}
}

// appended appends texts, each of which is to be taken.
func appended(t *testing.T, l *Log, texts ...string) {
	t.Helper()
	for _, text := range texts {
		told(t, "append", l.Append(text), api.OK)
	}
}

// has fails, unless a log has these texts, so many of them synced, and so much room.
func has(t *testing.T, l *Log, room, synced int, texts ...string) {
	t.Helper()
	if got := l.Texts(); !slices.Equal(got, texts) {
		t.Errorf("texts %.200q; not %.200q", got, texts)
	}
	if n := l.Synced(); n != synced {
		t.Errorf("%d are synced; not %d", n, synced)
	}
	if n := l.Room(); n != room {
		t.Errorf("room %d; not %d", n, room)
	}
}

// keeps fails, unless a log that is opened on a device has just these texts.
func keeps(t *testing.T, d *sector.Device, texts ...string) {
	t.Helper()
	l, e := Open(d)
	if e != api.OK {
		t.Errorf("open: %d; not %.200q", e, texts)
		return
	}
	if got := l.Texts(); !slices.Equal(got, texts) || l.Synced() != len(texts) {
		t.Errorf("kept %.200q, %d of them synced; not %.200q", got, l.Synced(), texts)
	}
}

// holds fails, unless the sectors from one on are read as these texts, and nothing waits for a flush.
func holds(t *testing.T, d *sector.Device, from int, l ...string) {
	t.Helper()
	for i, want := range l {
		if s, e := d.Read(from + i); s != want || e != api.OK {
			t.Errorf("sector %d: %d, %q; not %q", from+i, e, s, want)
		}
	}
	if d.Dirty() != 0 {
		t.Errorf("%d sectors in the cache", d.Dirty())
	}
}

// deed is a write of a sector, or, if it has no text, a flush.
type deed struct {
	at   int
	text string
}

// twin is a log by chapter 10's words, on a device of its own; it shares nothing with the program.
type twin struct {
	d       *sector.Device
	area    int // the sectors of one
	count   uint64
	in      int    // the area that counts
	log     string // the log's bytes
	synced  []string
	waiting []string
}

// do does deeds up to one that is refused.
func (w *twin) do(l []deed) api.Errno {
	for _, x := range l {
		e := api.OK
		if x.text == "" {
			e = w.d.Flush()
		} else {
			e = w.d.Write(x.at, x.text)
		}
		if e != api.OK {
			return e
		}
	}
	return api.OK
}

// deeds answers what settling does: bytes behind those that an area has.
func (w *twin) deeds(in int, had, more string) []deed {
	var l []deed
	all := had + more
	for at := 0; at*64 < len(all); at++ {
		if at*64+64 > len(had) {
			l = append(l, deed{2 + in*w.area + at, (all[at*64:] + zeros(64))[:64]})
		}
	}
	if more != "" {
		l = append(l, deed{})
	}
	c := w.count + 1
	return append(l, deed{int(c % 2), headOf(c, byte(in), uint64(len(all)))}, deed{})
}

// fresh makes a new device's log.
func (w *twin) fresh() api.Errno {
	w.area, w.count = (w.d.Size()-2)/2, 1
	return w.do([]deed{{1, headOf(1, 0, 0)}, {}})
}

func (w *twin) room() int {
	return 64*w.area - len(w.log) - len(frames(w.waiting...))
}

func (w *twin) append(text string) api.Errno {
	switch {
	case len(text) > 4096:
		return api.ErrLong
	case len(text)+6 > w.room():
		return api.ErrSpace
	}
	w.waiting = append(w.waiting, text)
	return api.OK
}

func (w *twin) sync() api.Errno {
	more := frames(w.waiting...)
	if more == "" {
		return api.OK
	}
	if e := w.do(w.deeds(w.in, w.log, more)); e != api.OK {
		return e
	}
	w.count++
	w.log += more
	w.synced, w.waiting = append(w.synced, w.waiting...), nil
	return api.OK
}

func (w *twin) restart(texts ...string) api.Errno {
	for _, text := range texts {
		if len(text) > 4096 {
			return api.ErrLong
		}
	}
	more := frames(texts...)
	if len(more) > 64*w.area {
		return api.ErrSpace
	}
	if e := w.do(w.deeds(1-w.in, "", more)); e != api.OK {
		return e
	}
	w.count++
	w.in, w.log, w.synced, w.waiting = 1-w.in, more, slices.Clone(texts), nil
	return api.OK
}

// alike fails, unless a log tells what its twin tells.
func (w *twin) alike(t *testing.T, l *Log) {
	t.Helper()
	has(t, l, w.room(), len(w.synced), slices.Concat(w.synced, w.waiting)...)
}

// alikeDevices fails, unless a device has what another one has, in its sectors and in its cache.
func alikeDevices(t *testing.T, d, want *sector.Device) {
	t.Helper()
	if got, want := image(t, d), image(t, want); !slices.Equal(got, want) {
		t.Errorf("sectors %.300q; not %.300q", got, want)
	}
	if got, want := d.Dirty(), want.Dirty(); got != want {
		t.Errorf("%d sectors in the cache; not %d", got, want)
	}
}

// maker makes what looks like chance, and is the same each time.
type maker struct{ *rand.Rand }

func newMaker(seed uint64) maker { return maker{rand.New(rand.NewPCG(seed, 10))} }

// text answers a text of up to so many bytes.
func (m maker) text(most int) string {
	b := make([]byte, m.IntN(most+1))
	for i := range b {
		b[i] = byte(m.IntN(256))
	}
	return string(b)
}

// texts answers some texts whose frames find room.
func (m maker) texts(room int) []string {
	var l []string
	for m.IntN(4) > 0 && room >= 6 {
		text := m.text(min(room-6, 4096))
		l = append(l, text)
		room -= len(text) + 6
	}
	return l
}

// picks answers so many picks, of all sorts.
func (m maker) picks(n int) []int {
	var l []int
	for range n {
		near := []int{0, 1, 0, 1, 2, 20, 21, 22, 42, 43, 63, 64, 65, -1, m.IntN(64)}
		l = append(l, near[m.IntN(len(near))])
	}
	return l
}
