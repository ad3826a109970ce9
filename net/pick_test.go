package net

import (
	"math"
	"slices"
	"testing"

	"corncrib/api"
)

// The chapter's example 1: of a, b and c Take(4) is b, and Take(-1) then is c.
func TestExample(t *testing.T) {
	a, b, c := ask(1, 1), ask(2, 2), ask(3, 3)
	n := newNet(t, 10, a, b, c)
	taken(t, n, 4, b)
	taken(t, n, -1, c)
	holds(t, n, a)
}

// picked are picks of a net of five letters, and the places for which they stand.
var picked = []struct{ pick, at int }{
	{0, 0}, {1, 1}, {2, 2}, {3, 3}, {4, 4}, {5, 0}, {6, 1}, {9, 4}, {10, 0}, {1003, 3},
	{-1, 4}, {-2, 3}, {-3, 2}, {-4, 1}, {-5, 0}, {-6, 4}, {-10, 0}, {-1003, 2},
	{math.MaxInt, 2}, {math.MaxInt - 1, 1}, {math.MinInt, 2}, {math.MinInt + 1, 3}, // 2^63 is 5 times 1844674407370955161, and 3
}

// Promise 15.2: a pick is any number, and stands for the place modulo Len: Take.
func TestTakePicks(t *testing.T) {
	for _, p := range picked {
		n := newNet(t, 5, asks(5)...)
		taken(t, n, p.pick, asks(5)[p.at])
		holds(t, n, slices.Delete(asks(5), p.at, p.at+1)...)
	}
}

// Promise 15.2: so does it for Drop.
func TestDropPicks(t *testing.T) {
	for _, p := range picked {
		n := newNet(t, 5, asks(5)...)
		dropped(t, n, p.pick, asks(5)[p.at])
		holds(t, n, slices.Delete(asks(5), p.at, p.at+1)...)
	}
}

// Promise 15.2: and for Copy: the letter stays, and is on its way once more, behind the others.
func TestCopyPicks(t *testing.T) {
	for _, p := range picked {
		n := newNet(t, 6, asks(5)...)
		is(t, "copy", n.Copy(p.pick), api.OK)
		holds(t, n, append(asks(5), asks(5)[p.at])...)
	}
}

// Promise 15.2: picks of nets of each size up to 40, and of the greatest one: 0, Len - 1, Len, those below 0, and the ends of all numbers.
func TestPicksOfSizes(t *testing.T) {
	for size := 1; size <= topRoom; size++ {
		if size > 40 && size < topRoom-1 {
			continue
		}
		l := asks(size)
		w := &twin{room: topRoom, way: make([]int, size)}
		picks := append([]int{size - 1, size, size + 1, -size + 1, -size, -size - 1, 7*size - 1, -7 * size}, wildNumbers...)
		for _, pick := range picks {
			n := newNet(t, topRoom, l...)
			at := w.place(pick)
			if size < topRoom {
				is(t, "copy", n.Copy(pick), api.OK)
				taken(t, n, -1, l[at]) // what was copied stands last
			}
			if pick%2 == 0 {
				taken(t, n, pick, l[at])
			} else {
				dropped(t, n, pick, l[at])
			}
			if size > 1 {
				taken(t, n, at, slices.Delete(asks(size), at, at+1)[at%(size-1)])
			}
		}
	}
}

// Promise 15.2: the net of one letter: each pick stands for it.
func TestPicksOfOne(t *testing.T) {
	for _, pick := range wildNumbers {
		n := newNet(t, 2, ask(3, 3))
		is(t, "copy", n.Copy(pick), api.OK)
		holds(t, n, ask(3, 3), ask(3, 3))
		taken(t, n, pick, ask(3, 3))
		dropped(t, n, pick, ask(3, 3))
		hasNone(t, n)
	}
}

// Promise 15.2: Take, Drop and Copy tell that there are no letters: in a new net, and in one that had some.
func TestNoLetters(t *testing.T) {
	hasNone(t, newNet(t, 1))
	hasNone(t, newNet(t, topRoom))
	n := newNet(t, 1, ask(1, 1))
	taken(t, n, 0, ask(1, 1))
	hasNone(t, n)
	is(t, "send", n.Send(ask(1, 2)), api.OK)
	dropped(t, n, 0, ask(1, 2))
	hasNone(t, n)
}

// Promise 15.2: Copy in a full net: there is no room, and nothing changes.
func TestCopyFull(t *testing.T) {
	for _, room := range []int{1, 2, 7, topRoom} {
		n := newNet(t, room, asks(room)...)
		for _, pick := range wildNumbers {
			is(t, "copy in a full net", n.Copy(pick), api.ErrNet)
		}
		holds(t, n, asks(room)...)
	}
	n := newNet(t, 3, ask(1, 1), ask(2, 2))
	is(t, "copy into the last room", n.Copy(1), api.OK)
	is(t, "copy in a full net", n.Copy(1), api.ErrNet)
	holds(t, n, ask(1, 1), ask(2, 2), ask(2, 2))
}

// Promise 15.2: what was copied goes its own way: each of the two is taken, by itself, and can be copied again.
func TestCopyOfCopy(t *testing.T) {
	n := newNet(t, 9, kinds()[2])
	for range 8 {
		is(t, "copy", n.Copy(-1), api.OK)
	}
	for range 9 {
		taken(t, n, 0, kinds()[2])
	}
	hasNone(t, n)
}

// Promise 15.2: For tells the places of the letters to an address: of none, one and several, rising.
func TestFor(t *testing.T) {
	n := newNet(t, 20, ask(3, 1), ask(100, 2), ask(3, 3), ask(0, 4), ask(3, 5), ask(115, 6), ask(0, 7))
	goes(t, n, 3, 0, 2, 4)
	goes(t, n, 100, 1)
	goes(t, n, 0, 3, 6)
	goes(t, n, 115, 5)
	for _, to := range []int{1, 2, 4, 11, 101, 114} {
		goes(t, n, to)
	}
	taken(t, n, 2, ask(3, 3))
	goes(t, n, 3, 0, 3)
	goes(t, n, 0, 2, 5)
	dropped(t, n, 0, ask(3, 1))
	goes(t, n, 3, 2)
	is(t, "copy", n.Copy(2), api.OK)
	goes(t, n, 3, 2, 5)
	injected(t, n, bytesOf(t, ask(3, 9)), ask(3, 9))
	goes(t, n, 3, 2, 5, 6)
	for to, want := range map[int][]int{100: {0}, 0: {1, 4}, 115: {3}} {
		goes(t, n, to, want...)
	}
}

// Promise 15.2: For goes by To alone: neither From, nor anything else of a letter, matters.
func TestForGoesByTo(t *testing.T) {
	n := newNet(t, 20, kinds()...)
	for to, want := range map[int][]int{3: {0}, 100: {1}, 0: {2}, 115: {3}, 11: {4}, 101: {5}, 2: {6}, 1: {7}, 5: nil, 6: nil, 7: nil, 9: nil} {
		goes(t, n, to, want...)
	}
}

// Promise 15.2: addresses that are none have no letters; nor has any in an empty net.
func TestForNoAddress(t *testing.T) {
	full := newNet(t, topRoom, asks(topRoom)...)
	for _, to := range append([]int{12, 50, 99, 116, 200, 2 + 1<<32, 2 - 1<<32, 2 + 256}, wildNumbers...) {
		goes(t, newNet(t, 5), to)
		goes(t, newNet(t, 5, ask(11, 1), ask(100, 1)), to)
		if to != 2 {
			goes(t, full, to)
		}
	}
	var all []int
	for i := range topRoom {
		all = append(all, i)
	}
	goes(t, full, 2, all...)
}
