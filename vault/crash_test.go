package vault

import (
	"slices"
	"testing"

	"corncrib/api"
	"corncrib/sector"
	"corncrib/shelf"
)

// scene is a vault that has something, and a call that is under way as its device crashes.
type scene struct {
	what    string
	sectors int
	had     []api.Record
	call    func(v *Vault) api.Errno
	want    api.Errno
	// after is what the vault has behind the call.
	after []api.Record
	// deeds is how many writes and flushes the call does.
	deeds int
	// head is the deed that lets what the call does count, whatever is picked behind it: the last flush of a head.
	head int
}

// doing and filling answer calls of Do and of Fill.
func doing(r api.Record) func(v *Vault) api.Errno {
	return func(v *Vault) api.Errno { return v.Do(r) }
}

func filling(l ...api.Record) func(v *Vault) api.Errno {
	return func(v *Vault) api.Errno { return v.Fill(l) }
}

// scenes answers calls of each kind.
func scenes(t *testing.T) []scene {
	long := exact(t, "k", 9, 200)
	added := func(l []api.Record, r api.Record) []api.Record { return append(slices.Clone(l), r) }
	eight := many(8, func(i int) api.Record { return do(i, 9) })
	five := []api.Record{prep(1, "", "x"), do(1, 0), prep(2, "a", "y"), do(2, 9), prep(3, "a", "z")} // 114 of 128 bytes
	return []scene{
		{"the first record", 6, nil, doing(prep(5, "", "k")), api.OK, []api.Record{prep(5, "", "k")}, 4, 4},
		{"one more", 20, some(), doing(do(8, 50)), api.OK, added(some(), do(8, 50)), 4, 4},
		{"a long one", 20, []api.Record{do(1, 9)}, doing(long), api.OK, []api.Record{do(1, 9), long}, 7, 7},
		{"a sweep", 20, some(), doing(upTo(9)), api.OK, added(some(), upTo(9)), 4, 4},
		{"by a restart", 6, refusedOnes(3), doing(do(8, 9)), api.OK, added(refusedOnes(3), do(8, 9)), 8, 8},
		{"by a longer restart", 6, five, doing(do(3, 77)), api.OK, added(five, do(3, 77)), 9, 9},
		{"no room behind a restart", 6, eight, doing(do(9, 9)), api.ErrSpace, eight, 5, 6},
		{"no room, and a longer log", 12, sixteen(), doing(exact(t, "q", 9, 225)), api.ErrSpace, sixteen(), 8, 9},
		{"fill", 20, some(), filling(refusedOnes(4)...), api.OK, refusedOnes(4), 6, 6},
		{"fill a new one", 20, nil, filling(some()...), api.OK, some(), 8, 8},
		{"fill with the same", 20, some(), filling(some()...), api.OK, some(), 8, 8},
		{"fill with nothing", 20, some(), filling(), api.OK, nil, 2, 2},
		{"fill up", 12, refusedOnes(3), filling(exact(t, "k", 9, 320)), api.OK, []api.Record{exact(t, "k", 9, 320)}, 8, 8},
	}
}

// start answers the vault of a scene.
func (x scene) start(t *testing.T) (*sector.Device, *Vault) {
	t.Helper()
	return fresh(t, x.sectors, x.had...)
}

// everyPick answers lists of picks for so many sectors: all the same, and all the same but one.
func everyPick(n int) [][]int {
	var l [][]int
	for pick := range 64 {
		l = append(l, slices.Repeat([]int{pick}, n))
	}
	for i := range n {
		for _, x := range [][2]int{{0, 1}, {1, 0}, {0, 32}, {1, 32}, {32, 0}, {32, 1}} {
			one := slices.Repeat(x[:1], n)
			one[i] = x[1]
			l = append(l, one)
		}
	}
	return l
}

// Promise 13.4: a crash at each write and flush of each call: a vault that is opened has what was done, or that and what was under way; which of them, and when, the order of writes tells.
func TestCrashesUnderWay(t *testing.T) {
	for _, x := range scenes(t) {
		had, after := knows(of(t, x.had...)), knows(of(t, x.after...))
		for n := 1; n <= x.deeds; n++ {
			for _, picks := range everyPick(min(n, 7)) {
				d, v := x.start(t)
				is(t, x.what, d.Fuse(n), api.OK)
				if e := x.call(v); e != api.ErrDown {
					t.Fatalf("%s, fuse %d: %d", x.what, n, e)
				}
				d.Crash(picks...)
				v, e := Open(d)
				if e != api.OK {
					t.Fatalf("%s, fuse %d, picks %d: %d", x.what, n, picks, e)
				}
				got, want := knows(v.Shelf()), had
				if n == x.head && (picks[0] == 1 || picks[0] == 63) { // the head is on the device (its last byte is 0, as ahead of it)
					want = after
				}
				torn := n == x.head && picks[0] > 1 && picks[0] < 63
				if got != want && !(torn && got == after) {
					t.Errorf("%s, fuse %d, picks %d: %.600s", x.what, n, picks, got)
				}
			}
		}
	}
}

// Promise 13.4: what was told to be done is there behind any crash, and what was refused is not.
func TestCrashesBehind(t *testing.T) {
	for _, x := range scenes(t) {
		for _, pick := range []int{0, 1, 2, 32, 63, -1} {
			d, v := x.start(t)
			is(t, x.what, d.Fuse(x.deeds+1), api.OK)
			is(t, x.what, x.call(v), x.want)
			has(t, v, x.after...)
			if d.Dirty() != 0 {
				t.Errorf("%s: %d in the cache", x.what, d.Dirty())
			}
			is(t, x.what, d.Flush(), api.ErrDown)
			d.Crash(slices.Repeat([]int{pick}, 20)...)
			keeps(t, d, x.after...)
			d.Crash()
			keeps(t, d, x.after...)
		}
	}
}

// Promise 13.4: a crash behind a crash: a vault whose call was torn is opened, asked again, and torn again; it is done at last.
func TestCrashBehindCrash(t *testing.T) {
	for _, x := range scenes(t) {
		had, after := knows(of(t, x.had...)), knows(of(t, x.after...))
		for first := 1; first <= x.deeds; first++ {
			for second := 1; second <= x.deeds; second++ {
				for _, picks := range [][]int{{0, 0, 0, 0, 0, 0, 0}, {1, 1, 1, 1, 1, 1, 1}, {21, 21, 21, 21}, {0, 1, 30, 1, 5}, {42, 0, 1}, {1, 0, 62}} {
					d, v := x.start(t)
					for _, n := range []int{first, second} {
						is(t, x.what, d.Fuse(n), api.OK)
						x.call(v) // what was under way may be done already
						d.Crash(picks...)
						v = opened(t, d)
						if got := knows(v.Shelf()); got != had && got != after {
							t.Fatalf("%s, fuses %d %d, picks %d: %.600s", x.what, first, second, picks, got)
						}
					}
					if knows(v.Shelf()) == had {
						is(t, x.what, x.call(v), x.want)
					}
					has(t, v, x.after...)
					keeps(t, d, x.after...)
				}
			}
		}
	}
}

// Promise 13.4: whatever is done, and wherever it crashes, a vault tells what the chapter's words make of it; behind a crash it has the shelf of all that was done, or of that and what was under way.
func TestCrashesAnywhere(t *testing.T) {
	m := newMaker(2)
	crashes, done := 0, 0
	for range 150 {
		sectors := []int{4, 6, 8, 12, 13, 20, 30, 60, 200}[m.IntN(9)]
		d, w := device(t, sectors), newTwin(t, sectors)
		v := opened(t, d)
		for i := range 80 {
			if m.IntN(2) == 0 {
				n := m.IntN(14)
				is(t, "fuse", d.Fuse(n), api.OK)
				is(t, "fuse", w.d.Fuse(n), api.OK)
			}
			had := knows(w.s)
			due, e := m.step(t, i, v, w)
			if e != api.ErrDown {
				w.alike(t, d, v)
				if m.IntN(8) > 0 {
					continue
				}
			}
			picks := m.picks(12)
			d.Crash(picks...)
			w.d.Crash(picks...)
			w.alikeDevices(t, d)
			v = opened(t, d)
			now := knows(v.Shelf())
			if e != api.ErrDown && now != knows(w.s) || now != had && now != due {
				t.Fatalf("behind a crash: %.600s; not %.600s, nor %.600s", now, had, due)
			}
			crashes++
			if e == api.ErrDown && now != had {
				done++
			}
			w.s = v.Shelf()
			w.open(t)
		}
	}
	if crashes < 1000 || done < 50 {
		t.Error(crashes, "crashes; in", done, "what was under way was done")
	}
}

// step does one thing with a vault, and the same with its twin; it answers what is known behind it, if it is done, and the error.
func (m maker) step(t *testing.T, i int, v *Vault, w *twin) (due string, e api.Errno) {
	t.Helper()
	if m.IntN(12) == 0 {
		l, s := m.records(), shelf.New()
		if !all(s, l) {
			s = w.s
		}
		due = knows(s)
		e = w.fill(l)
		is(t, "fill", v.Fill(l), e)
		return due, e
	}
	r, s := m.record(i), w.s.Fork()
	s.Apply(r)
	e = w.do(r)
	is(t, told(r), v.Do(r), e)
	return knows(s), e
}
