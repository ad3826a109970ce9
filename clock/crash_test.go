package clock

import (
	"slices"
	"testing"

	"corncrib/api"
	"corncrib/sector"
)

// everyPick answers lists of picks for so many sectors: all the same, and all the same but one.
func everyPick(n int) [][]int {
	var l [][]int
	for pick := range 64 {
		l = append(l, slices.Repeat([]int{pick}, n))
	}
	for i := range n {
		for _, x := range [][2]int{{0, 1}, {1, 0}, {0, 32}, {1, 32}, {32, 0}, {32, 1}} {
			one := slices.Repeat(x[:1], n)
			one[i] = x[1]
			l = append(l, one)
		}
	}
	return l
}

// scene is a clock whose device crashes as a record is written.
type scene struct {
	what    string
	sectors int
	had     []int
	call    func(c *Clock) api.Errno
	// to is the record's time.
	to int
	// deeds is how many writes and flushes the call does, the last of which makes it count.
	deeds int
}

func nexts(c *Clock) api.Errno {
	_, e := c.Next()
	return e
}

func skips(to int) func(c *Clock) api.Errno { return func(c *Clock) api.Errno { return c.Skip(to) } }

// scenes answers calls of each kind, each of a clock of block 10.
func scenes() []scene {
	return []scene{
		{"the first", 4, nil, nexts, 10, 4},
		{"one more", 4, []int{3, 9}, nexts, 19, 4},
		{"in two sectors", 8, []int{1, 2, 100}, nexts, 110, 5},
		{"in the second sector", 8, []int{1, 2, 3, 4}, nexts, 14, 4},
		{"by a restart", 4, []int{1, 2, 3, 4}, nexts, 14, 4},
		{"the last", 8, []int{topStamp - 3}, nexts, topStamp, 4},
		{"a skip", 4, []int{3, 9}, skips(500), 500, 4},
		{"the first skip", 4, nil, skips(topStamp), topStamp, 4},
		{"a skip in two sectors", 8, []int{1, 2, 100}, skips(101), 101, 5},
		{"a skip by a restart", 4, []int{1, 2, 3}, skips(topStamp), topStamp, 4},
	}
}

// Promise 16.4: a crash at each write and flush of each record: behind it the bound is the one ahead, or, where that was under way, the new one; the order of writes tells which.
func TestCrashesUnderWay(t *testing.T) {
	for _, x := range scenes() {
		last := append([]int{0}, x.had...)[len(x.had)]
		for n := 1; n <= x.deeds; n++ {
			for _, picks := range everyPick(2) {
				d := logged(t, x.sectors, uptos(x.had...)...)
				c := opened(t, d, 10)
				fuse(t, d, n)
				is(t, x.what, x.call(c), api.ErrDown)
				tells(t, c, last, last)
				d.Crash(picks...)
				got := opened(t, d, 10).Last()
				want := last
				if n == x.deeds && (picks[0] == 1 || picks[0] == 63) { // the head is on the device (its last byte is 0, as ahead of it)
					want = x.to
				}
				torn := n == x.deeds && picks[0] > 1 && picks[0] < 63
				if got != want && !(torn && got == x.to) {
					t.Errorf("%s, fuse %d, picks %d: %d; not %d", x.what, n, picks, got, want)
				}
			}
		}
	}
}

// Promise 16.4: what was told is there behind any crash.
func TestCrashesBehind(t *testing.T) {
	for _, x := range scenes() {
		for _, pick := range []int{0, 1, 2, 32, 63, -1} {
			d := logged(t, x.sectors, uptos(x.had...)...)
			c := opened(t, d, 10)
			fuse(t, d, x.deeds+1)
			is(t, x.what, x.call(c), api.OK)
			if c.Bound() != x.to || d.Dirty() != 0 {
				t.Errorf("%s: bound %d, %d in the cache", x.what, c.Bound(), d.Dirty())
			}
			is(t, x.what, d.Flush(), api.ErrDown)
			for range 2 {
				d.Crash(slices.Repeat([]int{pick}, 20)...)
				tells(t, opened(t, d, 10), x.to, x.to)
			}
		}
	}
}

// history is what a client has seen of a clock.
type history struct {
	// top is the highest stamp that was told, or skipped to.
	top int
	// bound is the highest that any record that was asked for has.
	bound int
}

// step asks a clock and its twin for one thing, and looks whether both tell the same, and stamps rise.
func (m maker) step(t *testing.T, c *Clock, w *twin, h *history) api.Errno {
	t.Helper()
	if m.IntN(6) == 0 {
		to := m.target(c.Last(), c.Bound())
		e := c.Skip(to)
		if want := w.skip(to); e != want {
			t.Fatalf("skip to %d: %d; not %d", to, e, want)
		}
		if e != api.ErrRange {
			h.bound = max(h.bound, to)
		}
		if e == api.OK {
			h.top = max(h.top, to)
		}
		return e
	}
	if c.Last() == c.Bound() {
		h.bound = max(h.bound, min(c.Last()+w.block, topStamp))
	}
	got, e := c.Next()
	if want, x := w.next(); got != want || e != x {
		t.Fatalf("%d, %d; not %d, %d", got, e, want, x)
	}
	if e == api.OK {
		if got <= h.top {
			t.Fatalf("%d behind %d", got, h.top)
		}
		h.top = got
	}
	return e
}

// anew crashes both devices alike, and opens a clock and its twin anew.
func (m maker) anew(t *testing.T, d *sector.Device, w *twin) *Clock {
	t.Helper()
	picks := m.picks(4)
	d.Crash(picks...)
	w.d.Crash(picks...)
	w.block = m.block()
	w.open(t)
	return opened(t, d, w.block)
}

// Promise 16.4: whatever is asked, and wherever it crashes, a clock tells what the chapter's words make of it, and stamps rise.
func TestCrashesAnywhere(t *testing.T) {
	m := newMaker(1)
	crashes, done, restarts, spent := 0, 0, 0, 0
	for range 300 {
		sectors := []int{4, 4, 5, 6, 8, 30, 200}[m.IntN(7)]
		d, w := device(t, sectors), newTwin(t, sectors, m.block())
		c, h := opened(t, d, w.block), &history{}
		for range 200 {
			n := 0
			if m.IntN(2) == 0 {
				n = m.IntN(9)
			}
			fuse(t, d, n)
			is(t, "fuse", w.d.Fuse(n), api.OK)
			last, had := c.Last(), c.Bound()
			e := m.step(t, c, w, h)
			if e == api.ErrDown {
				tells(t, c, last, had)
			} else {
				w.alike(t, d, c)
				if e == api.ErrSpent {
					spent++
				}
				if m.IntN(8) > 0 {
					continue
				}
			}
			had = c.Bound()
			c = m.anew(t, d, w)
			w.alike(t, d, c)
			if c.Last() != had && e != api.ErrDown || c.Last() < h.top || c.Last() > h.bound {
				t.Fatalf("behind a crash: %d; %d ahead of it, told %d, asked for %d", c.Last(), had, h.top, h.bound)
			}
			crashes++
			if c.Last() != had {
				done++
			}
		}
		restarts += w.restarts
	}
	if crashes < 5000 || done < 300 || restarts < 300 || spent < 30 {
		t.Error(crashes, "crashes; in", done, "what was under way was done;", restarts, "restarts;", spent, "times spent")
	}
}

// Promise 16.4: with crashes of any picks between, stamps rise, and by each crash no more than a block is passed over.
func TestNoMoreThanABlock(t *testing.T) {
	m := newMaker(2)
	for _, block := range []int{1, 2, 3, 10, 100, 4096} {
		for _, sectors := range []int{4, 6, 40} {
			d, c := fresh(t, sectors, block)
			top, passed := 0, 0
			for range 400 {
				if m.IntN(3) == 0 {
					fuse(t, d, m.IntN(7))
				}
				for range 1 + m.IntN(2*min(block, 50)) {
					got, e := c.Next()
					if e == api.ErrDown {
						break
					}
					if e != api.OK || got <= top || got > top+1+passed {
						t.Fatalf("block %d: %d, %d behind %d", block, got, e, top)
					}
					top, passed = got, 0
				}
				d.Crash(m.picks(3)...)
				c = opened(t, d, block)
				passed += block
				if c.Last() < top || c.Last() > top+passed || c.Bound() != c.Last() {
					t.Fatalf("block %d: at %d behind %d", block, c.Last(), top)
				}
			}
		}
	}
}

// Promise 16.4: a crash behind a crash, each as the first record of a clock that was opened is written: each takes a block at most.
func TestCrashBehindCrash(t *testing.T) {
	for first := 1; first <= 5; first++ {
		for second := 1; second <= 5; second++ {
			for _, picks := range everyPick(2) {
				d := logged(t, 4, uptos(1, 2, 3)...)
				last := 3
				for _, n := range []int{first, second} {
					c := opened(t, d, 10)
					if c.Last() != last && c.Last() != last+10 {
						t.Fatalf("fuses %d %d, picks %d: %d behind %d", first, second, picks, c.Last(), last)
					}
					last = c.Last()
					fuse(t, d, n)
					if got, e := c.Next(); e == api.OK && got != last+1 || e != api.OK && e != api.ErrDown || (e == api.OK) != (n == 5) {
						t.Fatalf("fuses %d %d, picks %d: %d, %d", first, second, picks, got, e)
					}
					d.Crash(picks...)
				}
				c := opened(t, d, 10)
				if c.Last() != last && c.Last() != last+10 {
					t.Fatalf("fuses %d %d, picks %d: %d behind %d", first, second, picks, c.Last(), last)
				}
				next(t, c, c.Last()+1)
			}
		}
	}
}
