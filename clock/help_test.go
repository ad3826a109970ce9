package clock

import (
	"encoding/binary"
	"hash/crc32"
	"math/rand/v2"
	"slices"
	"strings"
	"testing"

	"corncrib/api"
	"corncrib/redo"
	"corncrib/sector"
)

// The ends of what a clock may have, as the chapters and the limits tell them.
const (
	topStamp = 1125899906842624
	topBlock = 4096
)

// bytesOf writes a record by chapters 6 and 8; it shares nothing with the program.
func bytesOf(r api.Record) string {
	flag := func(b bool) int64 {
		if b {
			return 1
		}
		return 0
	}
	nums := []int64{int64(r.Kind), int64(r.Txn), int64(r.Ts), int64(r.Coord), flag(r.Dead), int64(len(r.Keys))}
	texts := append([]string{r.Key, r.Text}, r.Keys...)
	for _, w := range r.Writes {
		nums = append(nums, flag(w.Dead))
		texts = append(texts, w.Key, w.Shard)
	}
	b := binary.AppendUvarint(nil, uint64(len(nums)))
	for _, n := range nums {
		b = binary.AppendVarint(b, n)
	}
	b = binary.AppendUvarint(b, uint64(len(texts)))
	for _, s := range texts {
		b = append(binary.AppendUvarint(b, uint64(len(s))), s...)
	}
	return string(b)
}

// upto answers the bytes of a record RUpto, uptos those of some.
func upto(ts int) string { return bytesOf(api.Record{Kind: api.RUpto, Ts: ts}) }

func uptos(l ...int) []string {
	var out []string
	for _, ts := range l {
		out = append(out, upto(ts))
	}
	return out
}

// frames writes the frames of texts by chapter 5, one behind the other; it shares nothing with the program.
func frames(l ...string) string {
	all := ""
	for _, text := range l {
		b := append(binary.LittleEndian.AppendUint16(nil, uint16(len(text))), text...)
		all += string(binary.LittleEndian.AppendUint32(b, crc32.ChecksumIEEE(b)))
	}
	return all
}

// padded answers a sector's bytes: these, and bytes 0 behind them.
func padded(s string) string { return s + strings.Repeat("\x00", 64-len(s)) }

// headOf writes a head's sector by chapter 10.
func headOf(count uint64, area byte, length int) string {
	b := binary.BigEndian.AppendUint64([]byte("REDO"), count)
	b = binary.BigEndian.AppendUint64(append(b, area), uint64(length))
	return padded(strings.Repeat(string(b), 3))
}

// device answers a new one.
func device(t *testing.T, sectors int) *sector.Device {
	t.Helper()
	d, e := sector.New(sectors)
	if e != api.OK {
		t.Fatalf("%d sectors: %d", sectors, e)
	}
	return d
}

// logged answers a new device with a log of these texts.
func logged(t *testing.T, sectors int, l ...string) *sector.Device {
	t.Helper()
	d := device(t, sectors)
	log, e := redo.Open(d)
	if e == api.OK {
		e = log.Restart(l...)
	}
	is(t, "a log", e, api.OK)
	return d
}

// image answers what is read of all sectors.
func image(t *testing.T, d *sector.Device) []string {
	t.Helper()
	var l []string
	for at := range d.Size() {
		s, e := d.Read(at)
		is(t, "image", e, api.OK)
		l = append(l, s)
	}
	return l
}

// keeps fails, unless a device's log has just the records RUpto of these times, and nothing waits for a flush.
func keeps(t *testing.T, d *sector.Device, l ...int) {
	t.Helper()
	log, e := redo.Open(d)
	if e != api.OK {
		t.Fatalf("a log: %d", e)
	}
	if got := log.Texts(); !slices.Equal(got, uptos(l...)) || d.Dirty() != 0 {
		t.Errorf("%q, %d in the cache; not those of %d", got, d.Dirty(), l)
	}
}

// down lets a device be down.
func down(t *testing.T, d *sector.Device) {
	t.Helper()
	fuse(t, d, 1)
	is(t, "flush", d.Flush(), api.ErrDown)
}

// fuse lets the n-th write or flush of a device not be done.
func fuse(t *testing.T, d *sector.Device, n int) {
	t.Helper()
	is(t, "fuse", d.Fuse(n), api.OK)
}

// is fails, unless a call's error is this one.
func is(t *testing.T, what string, e, want api.Errno) {
	t.Helper()
	if e != want {
		t.Errorf("%s: %d; not %d", what, e, want)
	}
}

// opened answers the clock of a device.
func opened(t *testing.T, d *sector.Device, block int) *Clock {
	t.Helper()
	c, e := Open(d, block)
	if c == nil || e != api.OK {
		t.Fatalf("open: %d", e)
	}
	return c
}

// fresh answers a new device, and its clock.
func fresh(t *testing.T, sectors, block int) (*sector.Device, *Clock) {
	t.Helper()
	d := device(t, sectors)
	return d, opened(t, d, block)
}

// at answers a new device, and its clock, that has skipped to a stamp.
func at(t *testing.T, sectors, block, to int) (*sector.Device, *Clock) {
	t.Helper()
	d, c := fresh(t, sectors, block)
	is(t, "skip", c.Skip(to), api.OK)
	return d, c
}

// refused fails, unless the device's clock is not opened, with that error, and nothing beside it.
func refused(t *testing.T, what string, d *sector.Device, block int, want api.Errno) {
	t.Helper()
	if c, e := Open(d, block); c != nil || e != want {
		t.Errorf("%s: %v, %d; not %d", what, c != nil, e, want)
	}
}

// tells fails, unless these are a clock's last stamp and its bound.
func tells(t *testing.T, c *Clock, last, bound int) {
	t.Helper()
	if c.Last() != last || c.Bound() != bound {
		t.Errorf("last %d, bound %d; not %d, %d", c.Last(), c.Bound(), last, bound)
	}
}

// next fails, unless a clock hands out just these stamps.
func next(t *testing.T, c *Clock, l ...int) {
	t.Helper()
	for _, want := range l {
		if got, e := c.Next(); got != want || e != api.OK {
			t.Errorf("%d, %d; not %d", got, e, want)
		}
		if c.Last() != want {
			t.Errorf("last %d; not %d", c.Last(), want)
		}
	}
}

// none fails, unless a clock hands out nothing, with that error, and tells the same behind it as ahead of it.
func none(t *testing.T, c *Clock, want api.Errno) {
	t.Helper()
	last, bound := c.Last(), c.Bound()
	if got, e := c.Next(); got != 0 || e != want {
		t.Errorf("next: %d, %d; not 0, %d", got, e, want)
	}
	tells(t, c, last, bound)
}

// noSkip fails, unless a clock does not skip to there, with that error, and tells the same behind it as ahead of it.
func noSkip(t *testing.T, c *Clock, to int, want api.Errno) {
	t.Helper()
	last, bound := c.Last(), c.Bound()
	if e := c.Skip(to); e != want {
		t.Errorf("skip to %d: %d; not %d", to, e, want)
	}
	tells(t, c, last, bound)
}

// twin is a clock by chapter 16's words: it reckons itself which of its log's calls is due, and lets a log on a device of its own do it.
type twin struct {
	d                  *sector.Device
	log                *redo.Log
	block, last, bound int
	used               int // bytes of the log's area
	// writes is how often a record was written, restarts how often the log was restarted for it.
	writes, restarts int
}

func newTwin(t *testing.T, sectors, block int) *twin {
	t.Helper()
	w := &twin{d: device(t, sectors), block: block}
	w.open(t)
	return w
}

// open opens the log anew, and reads the last bound of it.
func (w *twin) open(t *testing.T) {
	t.Helper()
	log, e := redo.Open(w.d)
	is(t, "twin", e, api.OK)
	w.log, w.used, w.bound = log, len(frames(log.Texts()...)), 0
	if l := log.Texts(); len(l) > 0 {
		// Of a record RUpto the number ahead of five others, and of two empty texts, is its Ts.
		ts, _ := binary.Varint([]byte(l[len(l)-1])[3:])
		w.bound = int(ts)
	}
	w.last = w.bound
}

func (w *twin) next() (int, api.Errno) {
	if w.last == topStamp {
		return 0, api.ErrSpent
	}
	if w.last == w.bound {
		to := w.bound + w.block
		if to > topStamp {
			to = topStamp
		}
		if e := w.write(to); e != api.OK {
			return 0, e
		}
	}
	w.last++
	return w.last, api.OK
}

func (w *twin) skip(to int) api.Errno {
	if to < w.last || to > topStamp {
		return api.ErrRange
	}
	if to > w.bound {
		if e := w.write(to); e != api.OK {
			return e
		}
	}
	w.last = to
	return api.OK
}

func (w *twin) write(ts int) api.Errno {
	text := upto(ts)
	n := len(frames(text))
	if w.used+n > (w.d.Size()-2)/2*64 {
		if e := w.log.Restart(text); e != api.OK {
			return e
		}
		w.used = n
		w.restarts++
	} else {
		if w.log.Append(text) != api.OK {
			panic("the twin's log has other room than it reckons")
		}
		if e := w.log.Sync(); e != api.OK {
			return e
		}
		w.used += n
	}
	w.writes++
	w.bound = ts
	return api.OK
}

// alike fails, unless a clock tells what its twin does, and their devices have the same.
func (w *twin) alike(t *testing.T, d *sector.Device, c *Clock) {
	t.Helper()
	if c.Last() != w.last || c.Bound() != w.bound {
		t.Fatalf("last %d, bound %d; not %d, %d", c.Last(), c.Bound(), w.last, w.bound)
	}
	if got, want := image(t, d), image(t, w.d); !slices.Equal(got, want) {
		t.Fatalf("sectors %.600q; not %.600q", got, want)
	}
	if got, want := d.Dirty(), w.d.Dirty(); got != want {
		t.Fatalf("%d sectors in the cache; not %d", got, want)
	}
}

// maker makes what looks like chance, and is the same each time.
type maker struct{ *rand.Rand }

func newMaker(seed uint64) maker { return maker{rand.New(rand.NewPCG(seed, 16))} }

// block answers one of few blocks, the edges among them.
func (m maker) block() int { return []int{1, 1, 2, 3, 7, 10, 100, 4095, 4096}[m.IntN(9)] }

// target answers where a clock may be told to skip to: near to its last stamp, its bound, or an end of all stamps.
func (m maker) target(last, bound int) int {
	near := []int{last, bound, last + (bound-last)/2, bound + m.IntN(99), bound + m.IntN(5*topBlock)}
	if m.IntN(60) == 0 {
		near = []int{0, topStamp, m.IntN(topStamp)}
	}
	return near[m.IntN(len(near))] + []int{-1, 0, 0, 0, 1, 1, 2}[m.IntN(7)]
}

// picks answers so many picks, of all sorts.
func (m maker) picks(n int) []int {
	var l []int
	for range n {
		near := []int{0, 1, 0, 1, 2, 20, 21, 22, 42, 43, 63, 64, 65, -1, m.IntN(64)}
		l = append(l, near[m.IntN(len(near))])
	}
	return l
}
