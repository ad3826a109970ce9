package redo

import (
	"slices"
	"testing"

	"corncrib/api"
	"corncrib/sector"
)

// The chapter's example.
func TestExample(t *testing.T) {
	d := device(t, 4)
	l := opened(t, d)
	appended(t, l, "a")
	told(t, "sync", l.Sync(), api.OK)
	appended(t, l, "b")
	d.Crash()
	has(t, opened(t, d), 57, 1, "a")
}

// Promise 10.4: what was appended and not synced is gone behind a crash.
func TestNotSynced(t *testing.T) {
	for _, pick := range []int{0, 1, 30} {
		d, l := fresh(t, 20, "a", "b")
		appended(t, l, "c", full(300, "d"))
		d.Crash(pick, pick, pick)
		keeps(t, d, "a", "b")
	}
}

// everyPick answers lists of picks for so many sectors: all the same, and all the same but one.
func everyPick(n int) [][]int {
	var l [][]int
	for pick := range 64 {
		l = append(l, slices.Repeat([]int{pick}, n))
	}
	for i := range n {
		for _, x := range [][2]int{{0, 1}, {1, 0}, {0, 32}, {1, 32}, {32, 0}, {32, 1}} {
			one := slices.Repeat(x[:1], n)
			one[i] = x[1]
			l = append(l, one)
		}
	}
	return l
}

// scene is a log that stands somewhere, and a call that is under way as the device crashes.
type scene struct {
	what          string
	ready         func(t *testing.T) (*sector.Device, *Log)
	call          func(d *sector.Device, l *Log) api.Errno
	before, after []string
	// deeds is how many writes and flushes the call does.
	deeds int
}

// scenes answers calls of each kind.
func scenes() []scene {
	start := []string{"first", full(50, "second")}
	more := []string{"third", full(200, "fourth"), ""}
	waits := func(t *testing.T) (*sector.Device, *Log) {
		d, l := fresh(t, 20, start...)
		appended(t, l, more...)
		return d, l
	}
	other := func(t *testing.T) (*sector.Device, *Log) { // the log stands in the second area, and one of an older time in the first
		d, l := fresh(t, 20, full(400, "old"))
		told(t, "restart", l.Restart(start...), api.OK)
		appended(t, l, more...)
		return d, l
	}
	full := func(t *testing.T) (*sector.Device, *Log) { // bytes that end at a sector's end
		d, l := fresh(t, 20, textIn(128))
		appended(t, l, textIn(384))
		return d, l
	}
	open := func(d *sector.Device, _ *Log) api.Errno {
		_, e := Open(d)
		return e
	}
	sync := func(_ *sector.Device, l *Log) api.Errno { return l.Sync() }
	restart := func(texts ...string) func(*sector.Device, *Log) api.Errno {
		return func(_ *sector.Device, l *Log) api.Errno { return l.Restart(texts...) }
	}
	both := slices.Concat(start, more)
	return []scene{
		{"open a new device", func(t *testing.T) (*sector.Device, *Log) { return device(t, 4), nil }, open, nil, nil, 2},
		{"open a log", waits, open, start, start, 0},
		{"the first sync", func(t *testing.T) (*sector.Device, *Log) {
			d, l := fresh(t, 4)
			appended(t, l, "a")
			return d, l
		}, sync, nil, []string{"a"}, 4},
		{"sync", waits, sync, start, both, 7},
		{"sync in the other area", other, sync, start, both, 7},
		{"sync behind a full sector", full, sync, []string{textIn(128)}, []string{textIn(128), textIn(384)}, 9},
		{"restart", waits, restart("other", textIn(300)), start, []string{"other", textIn(300)}, 8},
		{"restart in the other area", other, restart("other", textIn(300)), start, []string{"other", textIn(300)}, 8},
		{"restart with the same", waits, restart(start...), start, start, 5},
		{"restart with what waits", other, restart(both...), start, both, 8},
		{"restart with none", waits, restart(), start, nil, 2},
	}
}

// Promise 10.4: a crash at each write and flush of each call: a log that is opened has what was synced, or what the call would have made so; which of them, and when, the order of writes tells.
func TestCrashesUnderWay(t *testing.T) {
	for _, x := range scenes() {
		for n := 1; n <= x.deeds; n++ {
			for _, picks := range everyPick(min(n, 9)) {
				d, l := x.ready(t)
				told(t, x.what, d.Fuse(n), api.OK)
				told(t, x.what, x.call(d, l), api.ErrDown)
				d.Crash(picks...)
				l, e := Open(d)
				if e != api.OK {
					t.Fatalf("%s, fuse %d, picks %d: %d", x.what, n, picks, e)
				}
				got, want := l.Texts(), x.before
				if n == x.deeds && (picks[0] == 1 || picks[0] == 63) { // the head is on the device (its last byte is 0, as ahead of it)
					want = x.after
				}
				torn := n == x.deeds && picks[0] > 1 && picks[0] < 63
				if !slices.Equal(got, want) && !(torn && slices.Equal(got, x.after)) || l.Synced() != len(got) {
					t.Errorf("%s, fuse %d, picks %d: %.100q", x.what, n, picks, got)
				}
			}
		}
	}
}

// Promise 10.4: what a call has done is there behind any crash.
func TestCrashesBehind(t *testing.T) {
	for _, x := range scenes() {
		for _, pick := range []int{0, 1, 2, 32, 63, -1} {
			d, l := x.ready(t)
			told(t, x.what, d.Fuse(x.deeds+1), api.OK)
			told(t, x.what, x.call(d, l), api.OK)
			if d.Dirty() != 0 {
				t.Errorf("%s: %d in the cache", x.what, d.Dirty())
			}
			told(t, x.what, d.Flush(), api.ErrDown)
			d.Crash(slices.Repeat([]int{pick}, 20)...)
			keeps(t, d, x.after...)
			d.Crash()
			keeps(t, d, x.after...)
		}
	}
}

// Promise 10.4: a crash behind a crash: a log whose call was torn is opened, asked again, and torn again.
func TestCrashBehindCrash(t *testing.T) {
	for _, x := range scenes() {
		for n := 1; n <= x.deeds; n++ {
			for _, first := range []int{0, 1, 5, 12, 21, 30, 42, 50, 62} {
				for _, second := range []int{0, 1, 7, 21, 25, 42, 62} {
					d, l := x.ready(t)
					told(t, x.what, d.Fuse(n), api.OK)
					told(t, x.what, x.call(d, l), api.ErrDown)
					d.Crash(slices.Repeat([]int{first}, 9)...)
					l = opened(t, d)
					had := l.Texts()
					appended(t, l, "once more")
					told(t, x.what, d.Fuse(4), api.OK)
					told(t, x.what, l.Sync(), api.ErrDown)
					d.Crash(second)
					got := opened(t, d).Texts()
					if !slices.Equal(got, had) && !slices.Equal(got, append(had, "once more")) {
						t.Errorf("%s, fuse %d, picks %d, %d: %.100q", x.what, n, first, second, got)
					}
				}
			}
		}
	}
}

// Promises 10.1 to 10.4: whatever is done, and wherever it crashes, a log tells what the chapter's words make of it, and its device is as they say; behind a crash it has what was synced, or what was under way.
func TestAsByWords(t *testing.T) {
	m := newMaker(2)
	for range 400 {
		sectors := []int{4, 5, 6, 7, 9, 12, 20, 60, 200}[m.IntN(9)]
		d, w := device(t, sectors), &twin{d: device(t, sectors)}
		l := opened(t, d)
		told(t, "twin", w.fresh(), api.OK)
		for range 60 {
			l = m.step(t, d, l, w)
			alikeDevices(t, d, w.d)
			w.alike(t, l)
		}
	}
}

// step does one thing with a log, and the same with its twin; if its device was down, both are opened anew behind a crash.
func (m maker) step(t *testing.T, d *sector.Device, l *Log, w *twin) *Log {
	t.Helper()
	if m.IntN(3) == 0 {
		n := m.IntN(12)
		told(t, "fuse", d.Fuse(n), w.d.Fuse(n))
	}
	was := slices.Clone(w.synced)
	due, e := was, api.OK
	switch m.IntN(6) {
	case 0:
		due = slices.Concat(w.synced, w.waiting)
		e = w.sync()
		told(t, "sync", l.Sync(), e)
	case 1:
		texts := m.texts(64*w.area + m.IntN(9))
		due = texts
		e = w.restart(texts...)
		told(t, "restart", l.Restart(texts...), e)
	case 2:
		told(t, "long", l.Restart("a", full(4097, "b")), api.ErrLong)
	default:
		text := m.text(min(w.room(), 4096))
		told(t, "append", l.Append(text), w.append(text))
	}
	if e != api.ErrDown && m.IntN(8) > 0 {
		return l
	}
	picks := m.picks(12)
	d.Crash(picks...)
	w.d.Crash(picks...)
	alikeDevices(t, d, w.d)
	l = opened(t, d)
	got := l.Texts()
	if !slices.Equal(got, was) && !slices.Equal(got, due) {
		t.Fatalf("behind a crash: %.200q; not %.200q, nor %.200q", got, was, due)
	}
	w.adopt(t, d)
	return l
}

// adopt reads what a device has by the chapter's words.
func (w *twin) adopt(t *testing.T, d *sector.Device) {
	t.Helper()
	*w = twin{d: same(t, d), area: w.area}
	for at := range 2 {
		s, _ := d.Read(at)
		count, in, length := fields(s)
		if s == headOf(count, in, length) && count > w.count {
			w.count, w.in = count, int(in)
			w.log = ""
			for _, x := range image(t, d)[2+w.in*w.area:][:w.area] {
				w.log += x
			}
			w.log = w.log[:length]
		}
	}
	for s := w.log; s != ""; {
		n := int(s[0]) + 256*int(s[1])
		w.synced = append(w.synced, s[2:n+2])
		s = s[n+6:]
	}
}
