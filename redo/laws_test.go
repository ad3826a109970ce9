package redo

import (
	"slices"
	"strings"
	"testing"
	"unsafe"

	"corncrib/api"
	"corncrib/sector"
)

// P1: no call panics, whatever it is given, in whatever state, and of whatever device.
func TestWildArguments(t *testing.T) {
	Open(nil)
	Open(&sector.Device{})
	m := newMaker(3)
	lengths := []int{0, 1, 57, 58, 59, 64, 122, 4095, 4096, 4097, 65535, 65536, 65537}
	for range 60 {
		d := device(t, []int{1, 2, 3, 4, 5, 6, 50, 2048}[m.IntN(8)])
		for range m.IntN(4) {
			lay(t, d, m.IntN(d.Size()), m.wild())
		}
		var all []*Log
		for range 30 {
			if l, e := Open(d); e == api.OK {
				all = append(all, l)
			} else if l != nil {
				t.Fatal("a log beside an error", e)
			}
			for _, l := range all { // also two beside each other, and those whose device crashed: nothing is said of them, but that they end
				switch m.IntN(9) {
				case 0:
					l.Sync()
				case 1:
					l.Restart(full(lengths[m.IntN(len(lengths))], "r"), full(m.IntN(99), "s"))
				case 2:
					l.Restart(make([]string, m.IntN(12000))...)
				case 3:
					d.Fuse(m.IntN(9))
				case 4:
					d.Crash(m.picks(9)...)
				case 5:
					l.Restart()
				default:
					l.Append(full(lengths[m.IntN(len(lengths))], "a"))
				}
				l.Texts()
				l.Synced()
				l.Room()
			}
		}
	}
}

// wild answers a sector's bytes: a head, one that is none, or whatever.
func (m maker) wild() string {
	great := []uint64{0, 1, 2, 63, 64, 65, 1000, 1 << 16, 1<<62 - 1, 1 << 62, 1<<62 + 1, 1 << 63, 1<<64 - 1}
	if m.IntN(5) == 0 {
		return (m.text(64) + zeros(64))[:64]
	}
	return headOf(great[m.IntN(len(great))], byte(m.IntN(4)), great[m.IntN(len(great))])
}

// R1: a wrong text is told ahead of what the log and the device refuse.
func TestOrderOfErrors(t *testing.T) {
	d, l := fresh(t, 4, textIn(64))
	long := full(4097, "x")
	told(t, "append", l.Append(long), api.ErrLong)
	told(t, "restart", l.Restart(textIn(65), long), api.ErrLong)
	told(t, "fuse", d.Fuse(1), api.OK)
	told(t, "flush", d.Flush(), api.ErrDown)
	told(t, "append", l.Append(long), api.ErrLong)
	told(t, "append", l.Append(""), api.ErrSpace)
	told(t, "restart", l.Restart(textIn(65), long), api.ErrLong)
	told(t, "restart", l.Restart(textIn(65)), api.ErrSpace)
	told(t, "restart", l.Restart(textIn(64)), api.ErrDown)
	told(t, "restart", l.Restart(), api.ErrDown)
}

// R3: a list of no texts is nil or empty, with the same to be told of it.
func TestEmptyLists(t *testing.T) {
	for _, texts := range [][]string{nil, {}, make([]string, 0, 5)} {
		d, l := fresh(t, 4, "a")
		told(t, "restart", l.Restart(texts...), api.OK)
		has(t, l, 64, 0)
		holds(t, d, 0, headOf(2, 0, 7), headOf(3, 1, 0))
		keeps(t, d)
	}
}

// R4: what is handed in is not changed, and not kept: neither its elements, nor what lies behind them.
func TestArgumentsAreLetBe(t *testing.T) {
	_, l := fresh(t, 20)
	room := []string{"a", "bc", "behind", "far behind"}
	told(t, "restart", l.Restart(room[:2]...), api.OK)
	appended(t, l, "d")
	if !slices.Equal(room, []string{"a", "bc", "behind", "far behind"}) {
		t.Error(room)
	}
	room[0], room[1] = "x", "yz"
	has(t, l, 576-7-8-7, 2, "a", "bc", "d")
	told(t, "sync", l.Sync(), api.OK)
	has(t, l, 576-7-8-7, 3, "a", "bc", "d")
	if room[2] != "behind" {
		t.Error(room)
	}
}

// R4: bytes that are changed behind the texts that were handed in are not the log's.
func TestTextsAreNotKept(t *testing.T) {
	a, b := []byte("first text"), []byte("other text")
	d, l := fresh(t, 20)
	appended(t, l, unsafe.String(&a[0], len(a)))
	copy(a, "XXXXXXXXXX")
	has(t, l, 576-16, 0, "first text")
	told(t, "sync", l.Sync(), api.OK)
	keeps(t, d, "first text")
	told(t, "restart", l.Restart(unsafe.String(&b[0], len(b))), api.OK)
	copy(b, "XXXXXXXXXX")
	has(t, l, 576-16, 1, "other text")
	keeps(t, d, "other text")
}

// R4: an answer is new memory: whoever changes it, or appends to it, changes neither the log nor another answer.
func TestAnswersAreNew(t *testing.T) {
	d, l := fresh(t, 20, "a", "b")
	appended(t, l, "c")
	for _, l := range []*Log{l, opened(t, d)} {
		want := l.Texts()
		one, two := l.Texts(), l.Texts()
		one[0] = "changed"
		one = append(one, "more")
		one[1] = "changed, too"
		spare := two[:cap(two)]
		for i := range spare[len(two):] {
			spare[len(two)+i] = "spare"
		}
		if !slices.Equal(two, want) || !slices.Equal(l.Texts(), want) {
			t.Errorf("%q, %q; not %q", two, l.Texts(), want)
		}
		appended(t, l, "later")
		if !slices.Equal(two, want) {
			t.Errorf("%q; not %q", two, want)
		}
	}
}

// R4: the bytes of the texts that are answered are new, too.
func TestAnsweredTextsAreNew(t *testing.T) {
	d, l := fresh(t, 20)
	in := []string{strings.Clone("one"), strings.Clone("two"), strings.Clone("three"), strings.Clone("four")}
	told(t, "restart", l.Restart(in[:2]...), api.OK)
	appended(t, l, in[2:3]...)
	told(t, "sync", l.Sync(), api.OK)
	appended(t, l, in[3])
	seen := map[*byte]bool{}
	for _, texts := range [][]string{in, l.Texts(), l.Texts(), opened(t, d).Texts(), opened(t, d).Texts()} {
		for _, text := range texts {
			p := unsafe.StringData(text)
			if seen[p] {
				t.Errorf("%q shares its memory", text)
			}
			seen[p] = true
		}
	}
	for _, text := range slices.Concat(l.texts, opened(t, d).texts) {
		if seen[unsafe.StringData(text)] {
			t.Errorf("%q shares its memory with what is kept", text)
		}
	}
}

// R5: a call that is refused has changed nothing that a later one could tell.
func TestRefusedChangesNothing(t *testing.T) {
	m := newMaker(4)
	for range 200 {
		sectors := 4 + m.IntN(30)
		d, w := device(t, sectors), &twin{d: device(t, sectors)}
		l := opened(t, d)
		told(t, "twin", w.fresh(), api.OK)
		for range 30 {
			if m.IntN(3) == 0 {
				told(t, "sync", l.Sync(), w.sync())
			}
			text := m.text(min(w.room(), 4096))
			told(t, "append", l.Append(text), w.append(text))
			told(t, "too long", l.Append(full(4097, "x")), api.ErrLong)
			told(t, "no room", l.Append(textIn(max(w.room()+1, 6))), api.ErrSpace)
			told(t, "too long", l.Restart(text, full(4097, "x")), api.ErrLong)
			told(t, "no room", l.Restart(text, textIn(max(64*w.area-len(text), 6))), api.ErrSpace)
			w.alike(t, l)
			alikeDevices(t, d, w.d)
		}
	}
}

// R7: the same calls tell the same, and make the same bytes.
func TestTheSameTwice(t *testing.T) {
	run := func() ([]string, []string) {
		m := newMaker(5)
		d, l := fresh(t, 40)
		for range 60 {
			if e := l.Append(m.text(80)); e != api.OK {
				l.Restart(l.Texts()[m.IntN(len(l.Texts())):]...)
			}
			if m.IntN(3) == 0 {
				told(t, "sync", l.Sync(), api.OK)
			}
		}
		return l.Texts(), image(t, d)
	}
	texts, sectors := run()
	again, sectorsAgain := run()
	if len(texts) == 0 || !slices.Equal(texts, again) || !slices.Equal(sectors, sectorsAgain) {
		t.Errorf("%q; not %q", again, texts)
	}
}

// Logs of unlike devices know nothing of each other.
func TestLogsApart(t *testing.T) {
	a, one := fresh(t, 8, "a")
	b, two := fresh(t, 8)
	appended(t, one, "b")
	appended(t, two, "c")
	told(t, "sync", two.Sync(), api.OK)
	told(t, "restart", one.Restart("d"), api.OK)
	has(t, one, 185, 1, "d")
	has(t, two, 185, 1, "c")
	keeps(t, a, "d")
	keeps(t, b, "c")
}
