package redo

import (
	"strings"
	"testing"

	"corncrib/api"
)

// Promise 10.2: texts that are appended wait; nothing is written.
func TestAppend(t *testing.T) {
	d, l := fresh(t, 10)
	had := image(t, d)
	told(t, "fuse", d.Fuse(1), api.OK)
	appended(t, l, "a")
	has(t, l, 249, 0, "a")
	appended(t, l, "", "bcd")
	has(t, l, 234, 0, "a", "", "bcd")
	holds(t, d, 0, had...)
	told(t, "flush", d.Flush(), api.ErrDown)
}

// Promise 10.2: what waits is settled; the head has the count one more, and the new length.
func TestSync(t *testing.T) {
	d, l := fresh(t, 8)
	appended(t, l, "a", "", "bcd")
	told(t, "sync", l.Sync(), api.OK)
	has(t, l, 192-22, 3, "a", "", "bcd")
	first := frames("a", "", "bcd")
	holds(t, d, 0, headOf(2, 0, 22), headOf(1, 0, 0), first+zeros(42), zeros(64), zeros(64), zeros(64), zeros(64), zeros(64))
	appended(t, l, full(80, "e"))
	has(t, l, 192-108, 3, "a", "", "bcd", full(80, "e"))
	told(t, "sync", l.Sync(), api.OK)
	has(t, l, 192-108, 4, "a", "", "bcd", full(80, "e"))
	all := first + frame(full(80, "e"))
	holds(t, d, 0, headOf(2, 0, 22), headOf(3, 0, 108), all[:64], all[64:]+zeros(20), zeros(64), zeros(64), zeros(64), zeros(64))
	keeps(t, d, "a", "", "bcd", full(80, "e"))
}

// Promises 10.2, 10.4: several syncs, one behind the other, read again behind each; both heads are written in turn.
func TestSyncs(t *testing.T) {
	for _, sectors := range []int{100, 101} {
		d, l := fresh(t, sectors)
		var texts []string
		used := 0
		for n := range 20 {
			text := full(7*n, "text")
			texts = append(texts, text)
			used += 7*n + 6
			appended(t, l, text)
			has(t, l, 49*64-used, n, texts...)
			told(t, "sync", l.Sync(), api.OK)
			has(t, l, 49*64-used, n+1, texts...)
			holds(t, d, n%2, headOf(uint64(n+2), 0, uint64(used)))
			keeps(t, d, texts...)
			d.Crash(0, 0, 0)
			l = opened(t, d)
			has(t, l, 49*64-used, n+1, texts...)
		}
	}
}

// Promise 10.2: a sync with nothing that waits is well, and does nothing, even if the device is down.
func TestSyncNothing(t *testing.T) {
	d, l := fresh(t, 10)
	told(t, "sync", l.Sync(), api.OK)
	holds(t, d, 0, zeros(64), headOf(1, 0, 0))
	appended(t, l, "a")
	told(t, "sync", l.Sync(), api.OK)
	had := image(t, d)
	told(t, "fuse", d.Fuse(1), api.OK)
	for range 3 {
		told(t, "sync", l.Sync(), api.OK)
	}
	holds(t, d, 0, had...)
	has(t, l, 249, 1, "a")
	told(t, "flush", d.Flush(), api.ErrDown)
	told(t, "sync", l.Sync(), api.OK)
	has(t, l, 249, 1, "a")
}

// Promise 10.2: a text of no bytes, and one of no bytes alone, is one.
func TestEmptyTexts(t *testing.T) {
	d, l := fresh(t, 4)
	for n := range 10 {
		appended(t, l, "")
		has(t, l, 64-6*(n+1), n, make([]string, n+1)...)
		told(t, "sync", l.Sync(), api.OK)
		has(t, l, 64-6*(n+1), n+1, make([]string, n+1)...)
	}
	told(t, "no room", l.Append(""), api.ErrSpace)
	keeps(t, d, make([]string, 10)...)
}

// Promise 10.2: a text has at most 4096 bytes; that comes ahead of the room.
func TestLongTexts(t *testing.T) {
	for _, sectors := range []int{4, 200, 2048} {
		d, l := fresh(t, sectors)
		appended(t, l, "ahead")
		had, room := image(t, d), l.Room()
		for _, n := range []int{4097, 4098, 5000, 65535, 65536, 65537, 69632, 1 << 20} {
			told(t, "long", l.Append(strings.Repeat("x", n)), api.ErrLong)
		}
		has(t, l, room, 0, "ahead")
		holds(t, d, 0, had...)
		most := strings.Repeat("x", 4096)
		if sectors == 4 {
			told(t, "4096", l.Append(most), api.ErrSpace)
			continue
		}
		appended(t, l, most)
		has(t, l, room-4102, 0, "ahead", most)
		told(t, "sync", l.Sync(), api.OK)
		has(t, l, room-4102, 2, "ahead", most)
		keeps(t, d, "ahead", most)
	}
}

// Promise 10.2: a frame that just finds room is taken, one that is a byte too long is not; of what is synced and what waits.
func TestJustRoom(t *testing.T) {
	for _, sectors := range []int{4, 5, 6, 7, 20} {
		most := (sectors - 2) / 2 * 64
		for ahead := range 3 {
			d, l := fresh(t, sectors)
			room, synced := most, 0
			var texts []string
			if ahead > 0 {
				texts = append(texts, "first")
				appended(t, l, "first")
				room -= 11
			}
			if ahead > 1 {
				told(t, "sync", l.Sync(), api.OK)
				texts = append(texts, "second")
				appended(t, l, "second")
				room, synced = room-12, 1
			}
			had := image(t, d)
			told(t, "too long", l.Append(textIn(room+1)), api.ErrSpace)
			told(t, "too long", l.Append(textIn(room+64)), api.ErrSpace)
			has(t, l, room, synced, texts...)
			holds(t, d, 0, had...)
			appended(t, l, textIn(room))
			texts = append(texts, textIn(room))
			has(t, l, 0, synced, texts...)
			told(t, "full", l.Append(""), api.ErrSpace)
			told(t, "sync", l.Sync(), api.OK)
			has(t, l, 0, len(texts), texts...)
			told(t, "full", l.Append(""), api.ErrSpace)
			told(t, "full, long", l.Append(strings.Repeat("x", 4097)), api.ErrLong)
			told(t, "sync", l.Sync(), api.OK)
			keeps(t, d, texts...)
		}
	}
}

// Promise 10.2: room of 1 to 5 bytes is none for any text.
func TestLittleRoom(t *testing.T) {
	for left := range 8 {
		_, l := fresh(t, 4)
		appended(t, l, textIn(64-left))
		want := api.ErrSpace
		if left >= 6 {
			want = api.OK
		}
		told(t, "no bytes", l.Append(""), want)
		if left < 7 {
			told(t, "a byte", l.Append("x"), api.ErrSpace)
		}
	}
}

// Promise 10.2: bytes that end at a sector's end, or a byte ahead of it or behind it; what is settled behind them writes just the sectors that have new bytes.
func TestSectorEnds(t *testing.T) {
	for _, first := range []int{6, 63, 64, 65, 127, 128, 129, 192} {
		for _, second := range []int{6, 7, 58, 62, 63, 64, 65, 66, 128, 130} {
			d, l := fresh(t, 14)
			w := &twin{d: device(t, 14)}
			told(t, "twin", w.fresh(), api.OK)
			for n, text := range []string{textIn(first), textIn(second)} {
				if n == 1 { // what is not written anew keeps what it has
					layBytes(t, d, 2, frame(textIn(first))+full(300, "rubbish"))
					layBytes(t, w.d, 2, frame(textIn(first))+full(300, "rubbish"))
				}
				appended(t, l, text)
				told(t, "twin", w.append(text), api.OK)
				told(t, "sync", l.Sync(), api.OK)
				told(t, "twin", w.sync(), api.OK)
				alikeDevices(t, d, w.d)
				w.alike(t, l)
			}
			keeps(t, d, textIn(first), textIn(second))
		}
	}
}

// Promise 10.2: each write and each flush of a sync is done in its order; what is refused is told.
func TestSyncRefused(t *testing.T) {
	texts := []string{full(30, "a"), full(100, "b"), "c"}
	for n := 1; n <= 7; n++ { // 4 sectors, a flush, the head, a flush
		d, l := fresh(t, 20, full(60, "ahead"))
		w := &twin{d: device(t, 20)}
		w.fresh()
		w.append(full(60, "ahead"))
		w.sync()
		for _, text := range texts {
			appended(t, l, text)
			w.append(text)
		}
		told(t, "fuse", d.Fuse(n), api.OK)
		w.d.Fuse(n)
		want := w.sync()
		told(t, "sync", l.Sync(), want)
		if ended := n == 7; (want == api.OK) != ended {
			t.Errorf("fuse %d: %d", n, want)
		}
		if n < 7 && d.Dirty() != []int{0, 1, 2, 3, 0, 1}[n-1] {
			t.Errorf("fuse %d: %d in the cache", n, d.Dirty())
		}
		d.Crash(1, 1, 1, 1)
		w.d.Crash(1, 1, 1, 1)
		alikeDevices(t, d, w.d)
	}
}

// Promise 10.2: a log that is opened goes on where it stood.
func TestGoOn(t *testing.T) {
	d, _ := fresh(t, 10, "first", "second")
	for n := range 5 {
		l := opened(t, d)
		appended(t, l, "more")
		told(t, "sync", l.Sync(), api.OK)
		holds(t, d, (3+n)%2, headOf(uint64(3+n), 0, uint64(23+10*(n+1))))
	}
	keeps(t, d, "first", "second", "more", "more", "more", "more", "more")
}

// Promise 10.2: the head that comes behind the greatest count may be is written as the words say, though it is none.
func TestGreatestCount(t *testing.T) {
	d := device(t, 4)
	lay(t, d, 0, headOf(1<<62, 0, 0))
	l := opened(t, d)
	appended(t, l, "a")
	told(t, "sync", l.Sync(), api.OK)
	has(t, l, 57, 1, "a")
	holds(t, d, 0, headOf(1<<62, 0, 0), headOf(1<<62+1, 0, 7))
}

// Promise 10.2: the bytes ahead of new ones are the log's, wherever it stands: in the second area, too.
func TestSyncInOtherArea(t *testing.T) {
	d := device(t, 9)
	layBytes(t, d, 5, frame(full(70, "first"))+"rubbish")
	lay(t, d, 1, headOf(77, 1, 76))
	l := opened(t, d)
	appended(t, l, "second")
	told(t, "sync", l.Sync(), api.OK)
	all := frames(full(70, "first"), "second")
	holds(t, d, 0, headOf(78, 1, 88), headOf(77, 1, 76), zeros(64), zeros(64), zeros(64), all[:64], all[64:]+zeros(40), zeros(64), zeros(64))
}
