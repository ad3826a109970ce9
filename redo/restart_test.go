package redo

import (
	"strings"
	"testing"

	"corncrib/api"
)

// Promise 10.3: a log has just the texts it is restarted with, all synced, in the other area; what waited is gone.
func TestRestart(t *testing.T) {
	d, l := fresh(t, 8, "a", "b")
	appended(t, l, "waits")
	told(t, "restart", l.Restart("c", "", full(60, "d")), api.OK)
	all := frames("c", "", full(60, "d"))
	has(t, l, 192-79, 3, "c", "", full(60, "d"))
	holds(t, d, 0, headOf(2, 0, 14), headOf(3, 1, 79), frames("a", "b")+zeros(50), zeros(64), zeros(64), all[:64], all[64:]+zeros(49), zeros(64))
	keeps(t, d, "c", "", full(60, "d"))
	told(t, "sync", l.Sync(), api.OK)
	has(t, l, 192-79, 3, "c", "", full(60, "d"))
	holds(t, d, 0, headOf(2, 0, 14), headOf(3, 1, 79))
	appended(t, l, "e")
	has(t, l, 192-86, 3, "c", "", full(60, "d"), "e")
	told(t, "sync", l.Sync(), api.OK)
	has(t, l, 192-86, 4, "c", "", full(60, "d"), "e")
	all += frame("e")
	holds(t, d, 0, headOf(4, 1, 86), headOf(3, 1, 79), frames("a", "b")+zeros(50), zeros(64), zeros(64), all[:64], all[64:]+zeros(42), zeros(64))
	keeps(t, d, "c", "", full(60, "d"), "e")
}

// Promise 10.3: back in the first area the texts stand from 0 on; in the last sector bytes 0 are behind them, in those behind it what was there.
func TestRestartBack(t *testing.T) {
	d, l := fresh(t, 8, full(150, "old"))
	old := frame(full(150, "old")) + zeros(36)
	told(t, "restart", l.Restart("other"), api.OK)
	told(t, "restart", l.Restart("back"), api.OK)
	has(t, l, 182, 1, "back")
	holds(t, d, 0, headOf(4, 0, 10), headOf(3, 1, 11), frame("back")+zeros(54), old[64:128], old[128:], frame("other")+zeros(53), zeros(64), zeros(64))
	keeps(t, d, "back")
}

// Promise 10.3: the same texts are settled anew.
func TestRestartWithTheSame(t *testing.T) {
	d, l := fresh(t, 6, "a", "b")
	for n := range 5 {
		told(t, "restart", l.Restart(l.Texts()...), api.OK)
		has(t, l, 114, 2, "a", "b")
		holds(t, d, (3+n)%2, headOf(uint64(3+n), byte(1-n%2), 14))
		holds(t, d, 2, frames("a", "b")+zeros(50))
		holds(t, d, 4, frames("a", "b")+zeros(50))
		keeps(t, d, "a", "b")
	}
}

// Promise 10.3: with no texts the head and a flush are all that is done.
func TestRestartWithNone(t *testing.T) {
	d, l := fresh(t, 6, full(90, "a"))
	appended(t, l, "waits")
	had := image(t, d)
	told(t, "restart", l.Restart(), api.OK)
	has(t, l, 128, 0)
	had[1] = headOf(3, 1, 0)
	holds(t, d, 0, had...)
	keeps(t, d)
	told(t, "restart", l.Restart([]string{}...), api.OK)
	had[0] = headOf(4, 0, 0)
	holds(t, d, 0, had...)
	has(t, l, 128, 0)
	told(t, "fuse", d.Fuse(3), api.OK)
	told(t, "restart", l.Restart(), api.OK)
	told(t, "the third", d.Flush(), api.ErrDown)
}

// Promise 10.3: a text that is too long is refused ahead of there being no room; nothing has changed then.
func TestRestartTooLong(t *testing.T) {
	for _, sectors := range []int{4, 300, 2048} {
		d, l := fresh(t, sectors, "a")
		appended(t, l, "waits")
		had, room := image(t, d), l.Room()
		long := strings.Repeat("x", 4097)
		for _, texts := range [][]string{{long}, {long, "b"}, {"b", long}, {"", "", long, ""}, {long[1:], long[1:], long}, {strings.Repeat("x", 1<<20)}, append(make([]string, 11000), long)} {
			told(t, "too long", l.Restart(texts...), api.ErrLong)
		}
		has(t, l, room, 1, "a", "waits")
		holds(t, d, 0, had...)
		told(t, "sync", l.Sync(), api.OK)
		keeps(t, d, "a", "waits")
	}
}

// Promise 10.3: frames that just fill an area are settled, a byte more is not; nothing has changed then.
func TestRestartJustRoom(t *testing.T) {
	for _, sectors := range []int{4, 5, 6, 7, 66} {
		most := (sectors - 2) / 2 * 64
		d, l := fresh(t, sectors, "a", textIn(most-7-8))
		appended(t, l, "w")
		had := image(t, d)
		for _, texts := range [][]string{{textIn(most + 1)}, {textIn(most + 64)}, {textIn(most - 5), ""}, {"", textIn(most - 5)}, {textIn(most - 6), "x"}, {textIn(most), ""}, make([]string, most/6+1), make([]string, 20000)} {
			told(t, "no room", l.Restart(texts...), api.ErrSpace)
		}
		has(t, l, 1, 2, "a", textIn(most-15), "w")
		holds(t, d, 0, had...)
		told(t, "restart", l.Restart(textIn(most)), api.OK)
		has(t, l, 0, 1, textIn(most))
		keeps(t, d, textIn(most))
		told(t, "restart", l.Restart("", textIn(most-6)), api.OK)
		has(t, l, 0, 2, "", textIn(most-6))
		keeps(t, d, "", textIn(most-6))
		told(t, "full", l.Append(""), api.ErrSpace)
		told(t, "restart", l.Restart(textIn(most-6)), api.OK)
		has(t, l, 6, 1, textIn(most-6))
		appended(t, l, "")
	}
}

// Promise 10.3: texts of all lengths that may be fill the greatest device's areas.
func TestRestartGreat(t *testing.T) {
	most := strings.Repeat("x", 4096)
	var texts []string
	for range 15 {
		texts = append(texts, most)
	}
	texts = append(texts, textIn(65472-15*4102))
	d, l := fresh(t, 2048, "a")
	told(t, "restart", l.Restart(texts...), api.OK)
	has(t, l, 0, 16, texts...)
	keeps(t, d, texts...)
	all := frames(texts...)
	holds(t, d, 1025, all[:64], all[64:128])
	holds(t, d, 2047, all[65408:])
	told(t, "restart", l.Restart(texts[:15]...), api.OK)
	has(t, l, 65472-15*4102, 15, texts[:15]...)
	keeps(t, d, texts[:15]...)
}

// Promise 10.3: each write and each flush of a restart is done in its order; what is refused is told.
func TestRestartRefused(t *testing.T) {
	for _, x := range []struct {
		texts  []string
		writes int // ahead of the head's
	}{{nil, 0}, {[]string{"b"}, 1}, {[]string{textIn(64)}, 1}, {[]string{textIn(65)}, 2}, {[]string{textIn(100), textIn(92), ""}, 4}, {[]string{textIn(576)}, 9}} {
		for n := range x.writes + 4 {
			d, l := fresh(t, 20, "a", full(200, "b"))
			w := &twin{d: device(t, 20)}
			w.fresh()
			w.append("a")
			w.append(full(200, "b"))
			w.sync()
			told(t, "fuse", d.Fuse(n), api.OK)
			w.d.Fuse(n)
			want := w.restart(x.texts...)
			told(t, "restart", l.Restart(x.texts...), want)
			all := x.writes + 3
			if x.writes == 0 {
				all = 2
			}
			if (want == api.OK) != (n == 0 || n > all) {
				t.Errorf("fuse %d of %d: %d", n, all, want)
			}
			dirty := 0
			switch {
			case n > 0 && n <= x.writes+1 && x.writes > 0:
				dirty = n - 1
			case n == all:
				dirty = 1
			}
			if d.Dirty() != dirty {
				t.Errorf("fuse %d of %d: %d in the cache; not %d", n, all, d.Dirty(), dirty)
			}
			picks := make([]int, 20)
			for i := range picks {
				picks[i] = 1
			}
			d.Crash(picks...)
			w.d.Crash(picks...)
			alikeDevices(t, d, w.d)
		}
	}
}
