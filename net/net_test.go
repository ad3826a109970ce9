package net

import (
	"math"
	"slices"
	"strings"
	"testing"

	"corncrib/api"
)

// Promise 15.1: New, of each room that may be, and of those beside.
func TestNew(t *testing.T) {
	for _, room := range []int{1, 2, 3, 50, topRoom - 1, topRoom} {
		n := newNet(t, room)
		hasNone(t, n)
		goes(t, n, 2)
	}
	for _, room := range []int{math.MinInt, -topRoom, -1, 0, topRoom + 1, 2 * topRoom, 1<<32 + 1, math.MaxInt} {
		if n, e := New(room); n != nil || e != api.ErrRange {
			t.Errorf("New(%d): %v, %d", room, n, e)
		}
	}
}

// Promise 15.1: what is sent is on its way, behind the others: a net with one letter, and with several.
func TestSend(t *testing.T) {
	n := newNet(t, 20)
	for i, l := range kinds() {
		is(t, "send", n.Send(l), api.OK)
		if n.Len() != i+1 {
			t.Error(n.Len(), "letters; not", i+1)
		}
		holds(t, n, kinds()[:i+1]...)
	}
	one := newNet(t, 1, ask(3, 8))
	holds(t, one, ask(3, 8))
	taken(t, one, 0, ask(3, 8))
	hasNone(t, one)
}

// Promise 15.1: the same letter, sent twice, is on its way twice.
func TestSendTwice(t *testing.T) {
	n := newNet(t, 5, ask(1, 1), ask(2, 2), ask(1, 1), ask(1, 1))
	holds(t, n, ask(1, 1), ask(2, 2), ask(1, 1), ask(1, 1))
}

// Promise 15.1: Send refuses a letter that may not be, and it is not on its way.
func TestSendNone(t *testing.T) {
	for _, n := range []*Net{newNet(t, 1), newNet(t, 9, kinds()...)} {
		was := n.Len()
		for _, l := range noLetters() {
			is(t, "send "+told(l), n.Send(l), api.ErrLetter)
		}
		if n.Len() != was {
			t.Error(n.Len(), "letters; not", was)
		}
	}
}

// Promise 15.1: there is room for just so many letters; one that may not be is refused as such in a full net, too.
func TestFull(t *testing.T) {
	for _, room := range []int{1, 2, 8, topRoom - 1, topRoom} {
		n := newNet(t, room, asks(room)...)
		for _, l := range kinds() {
			is(t, "send to a full net", n.Send(l), api.ErrNet)
		}
		for _, l := range noLetters() {
			is(t, "send of none to a full net", n.Send(l), api.ErrLetter)
		}
		holds(t, n, asks(room)...)
	}
}

// Promises 15.1, 15.2: behind a Take, or a Drop, there is room for one more.
func TestRoomAgain(t *testing.T) {
	for _, room := range []int{1, 2, 5, topRoom} {
		n := newNet(t, room, asks(room)...)
		want := asks(room)
		for i := range 4 {
			if i%2 == 0 {
				taken(t, n, i, want[i%room])
			} else {
				dropped(t, n, i, want[i%room])
			}
			want = append(slices.Delete(want, i%room, i%room+1), ask(5, 5000+i))
			switch i {
			case 0, 1:
				is(t, "send", n.Send(ask(5, 5000+i)), api.OK)
			default:
				injected(t, n, bytesOf(t, ask(5, 5000+i)), ask(5, 5000+i))
			}
			is(t, "send to a full net", n.Send(ask(5, 7)), api.ErrNet)
			is(t, "copy in a full net", n.Copy(0), api.ErrNet)
			unjected(t, n, bytesOf(t, ask(5, 7)), api.ErrNet)
		}
		holds(t, n, want...)
	}
}

// Promise 15.2: Inject of a letter's bytes: it is told, and on its way, behind the others.
func TestInject(t *testing.T) {
	n := newNet(t, 30)
	for i, l := range kinds() {
		injected(t, n, bytesOf(t, l), l)
		holds(t, n, kinds()[:i+1]...)
	}
	is(t, "send", n.Send(ask(4, 1)), api.OK)
	injected(t, n, bytesOf(t, kinds()[2]), kinds()[2])
	holds(t, n, append(kinds(), ask(4, 1), kinds()[2])...)
}

// Promise 15.2: Inject of bytes that are no letter's.
func TestInjectNone(t *testing.T) {
	n := newNet(t, 3, ask(1, 1), ask(2, 2))
	full := newNet(t, 2, ask(1, 1), ask(2, 2))
	empty := newNet(t, 1)
	bad := []string{"", "\x00", "x", "\x80", "\x07\x0e\x02\x04\x0a\x00\x00\x00\x01", "\x07\x12\x02\x04\x0a\x00\x00\x00\x01\x00", strings.Repeat("\xff", 60), strings.Repeat("\x00", 5000)}
	for _, l := range kinds() {
		s := bytesOf(t, l)
		bad = append(bad, s[1:], s[:len(s)-1], s+"\x00", s+s)
	}
	for _, s := range bad {
		unjected(t, n, s, api.ErrLetter)
		unjected(t, full, s, api.ErrLetter)
		unjected(t, empty, s, api.ErrLetter)
	}
	holds(t, n, ask(1, 1), ask(2, 2))
	holds(t, full, ask(1, 1), ask(2, 2))
	hasNone(t, empty)
}

// Promise 15.2: Inject of a letter's bytes, when the net is full.
func TestInjectFull(t *testing.T) {
	for _, room := range []int{1, 2, topRoom} {
		n := newNet(t, room, asks(room)...)
		for _, l := range kinds() {
			unjected(t, n, bytesOf(t, l), api.ErrNet)
		}
		holds(t, n, asks(room)...)
	}
}
