package clock

import (
	"math"
	"reflect"
	"slices"
	"testing"

	"corncrib/api"
	"corncrib/redo"
	"corncrib/sector"
)

// The chapter's Ways: a clock embeds its log, whose calls are its own, then.
func TestEmbedsItsLog(t *testing.T) {
	embedded := 0
	kind := reflect.TypeFor[Clock]()
	for i := range kind.NumField() {
		if f := kind.Field(i); f.Anonymous && (f.Type == reflect.TypeFor[*redo.Log]() || f.Type == reflect.TypeFor[redo.Log]()) {
			embedded++
		}
	}
	if embedded != 1 {
		t.Errorf("%d logs are embedded", embedded)
	}
	_, c := fresh(t, 8, 10)
	next(t, c, 1)
	is(t, "skip", c.Skip(10), api.OK)
	next(t, c, 11)
	log, ok := any(c).(interface {
		Texts() []string
		Synced() int
	})
	if !ok {
		t.Fatal("its log's calls are not a clock's")
	}
	if got := log.Texts(); !slices.Equal(got, uptos(10, 20)) || log.Synced() != 2 {
		t.Errorf("%q, %d of them synced", got, log.Synced())
	}
}

// P1: no call panics, whatever it is given, in whatever state, and of whatever device.
func TestWildArguments(t *testing.T) {
	Open(nil, 10)
	Open(&sector.Device{}, 10)
	m := newMaker(3)
	numbers := []int{math.MinInt, math.MinInt + 1, -1 << 50, -1, 0, 1, 2, 10, 4095, 4096, 4097, topStamp - 1, topStamp, topStamp + 1, math.MaxInt - 4096, math.MaxInt}
	for range 300 {
		d := device(t, []int{1, 2, 3, 4, 5, 6, 50, 2048}[m.IntN(8)])
		var all []*Clock
		for range 40 {
			block := numbers[m.IntN(len(numbers))]
			if c, e := Open(d, block); e == api.OK {
				all = append(all, c)
			} else if c != nil {
				t.Fatal("a clock beside an error", e)
			}
			for _, c := range all { // also two beside each other, and those whose device crashed: nothing is said of them, but that they end
				switch m.IntN(8) {
				case 0:
					d.Fuse(m.IntN(9))
				case 1:
					d.Crash(m.picks(9)...)
				case 2, 3:
					c.Skip(numbers[m.IntN(len(numbers))])
				case 4:
					c.Skip(m.target(c.Last(), c.Bound()))
				default:
					c.Next()
				}
			}
		}
	}
}

// P1: a log of any texts is opened, or refused.
func TestWildLogs(t *testing.T) {
	m := newMaker(4)
	good := 0
	for range 4000 {
		var l []string
		ts := 0
		for range m.IntN(5) {
			ts += m.IntN(1 << m.IntN(49))
			b := []byte(upto(ts))
			if m.IntN(6) == 0 {
				b[m.IntN(len(b))] ^= byte(1 << m.IntN(8))
			}
			l = append(l, string(b))
		}
		c, e := Open(logged(t, 100, l...), 10)
		if (c == nil) != (e == api.ErrRot) || (c != nil) != (e == api.OK) {
			t.Fatal(c != nil, e)
		}
		if e != api.OK {
			continue
		}
		if len(l) > 0 {
			good++
			if !slices.Equal(l[len(l)-1:], []string{upto(c.Last())}) {
				t.Errorf("%d; %q", c.Last(), l)
			}
		}
		next(t, c, c.Last()+1)
	}
	if good < 500 {
		t.Error("opened but", good)
	}
}

// What a clock tells, and what it writes, by the chapter's words, over many steps without a crash.
func TestTwin(t *testing.T) {
	m := newMaker(5)
	writes := 0
	for range 60 {
		sectors := []int{4, 5, 6, 8, 30}[m.IntN(5)]
		d, w := device(t, sectors), newTwin(t, sectors, m.block())
		c, h := opened(t, d, w.block), &history{}
		for range 300 {
			m.step(t, c, w, h)
			w.alike(t, d, c)
		}
		writes += w.writes
	}
	if writes < 3000 {
		t.Error("wrote but", writes)
	}
}

// R5: a call that is refused has changed nothing that a later one could tell.
func TestRefusedChangesNothing(t *testing.T) {
	m := newMaker(6)
	for range 60 {
		block := m.block()
		d, c := fresh(t, 6, block)
		other, plain := fresh(t, 6, block)
		for range 60 {
			noSkip(t, c, c.Last()-1, api.ErrRange)
			noSkip(t, c, topStamp+1, api.ErrRange)
			refused(t, "no block", d, 0, api.ErrRange)
			if c.Last() == topStamp {
				none(t, c, api.ErrSpent)
			}
			if to := m.target(c.Last(), c.Bound()); m.IntN(3) == 0 {
				is(t, "skip", c.Skip(to), plain.Skip(to))
			} else {
				got, e := c.Next()
				if want, x := plain.Next(); got != want || e != x {
					t.Fatal(got, e, want, x)
				}
			}
			tells(t, c, plain.Last(), plain.Bound())
			if !slices.Equal(image(t, d), image(t, other)) || d.Dirty() != 0 {
				t.Fatal("a refusal is to be seen")
			}
		}
	}
}

// R7: the same calls tell the same, and make the same bytes; to ask for the last stamp and the bound changes nothing.
func TestTheSameTwice(t *testing.T) {
	run := func(ask bool) ([]int, []string) {
		m := newMaker(7)
		d, c := fresh(t, 8, 7)
		var told []int
		for range 400 {
			if m.IntN(9) == 0 {
				e := c.Skip(m.IntN(600))
				told = append(told, int(e))
			}
			got, e := c.Next()
			told = append(told, got, int(e))
			if ask {
				c.Last()
				c.Bound()
			}
		}
		return append(told, c.Last(), c.Bound()), image(t, d)
	}
	first, sectors := run(false)
	for i := range 4 {
		again, same := run(i%2 == 0)
		if !slices.Equal(again, first) || !slices.Equal(same, sectors) {
			t.Errorf("%.300d; not %.300d", again, first)
		}
	}
}

// Clocks of unlike devices know nothing of each other.
func TestClocksApart(t *testing.T) {
	a, one := fresh(t, 8, 10)
	b, two := at(t, 8, 3, 50)
	next(t, one, 1, 2)
	next(t, two, 51, 52, 53, 54)
	next(t, one, 3)
	tells(t, one, 3, 10)
	tells(t, two, 54, 56)
	keeps(t, a, 10)
	keeps(t, b, 50, 53, 56)
}
