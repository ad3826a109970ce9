package leases

import (
	"cmp"
	"slices"

	"corncrib/api"
)

// lease is that somebody reads at a time stamp, up to a tick.
type lease struct{ number, ts, until int }

// overAt answers what tells of a lease whether it is over at a tick.
func overAt(now int) func(l lease) bool {
	return func(l lease) bool { return l.until < now }
}

// running answers how many leases are not over.
func (t *Table) running(over func(l lease) bool) int {
	n := 0
	for _, l := range t.leases {
		if !over(l) {
			n++
		}
	}
	return n
}

// place answers where the lease of a number stands; false, if there is none.
func (t *Table) place(number int) (at int, ok bool) {
	return slices.BinarySearchFunc(t.leases, number, func(l lease, n int) int { return cmp.Compare(l.number, n) })
}

// placeAt answers where the lease of a number stands; ErrRange of no tick, ErrNone, if there is no such lease, ErrLease, if it is over at the tick.
func (t *Table) placeAt(now, number int) (at int, e api.Errno) {
	if !isTick(now) {
		return 0, api.ErrRange
	}
	at, ok := t.place(number)
	if !ok {
		return 0, api.ErrNone
	}
	if over := overAt(now); over(t.leases[at]) {
		return 0, api.ErrLease
	}
	return at, api.OK
}

// isTick tells whether a number may be a tick.
func isTick(n int) bool { return n >= 0 && n <= api.MaxTick }

// isStamp tells whether a number may be a time stamp.
func isStamp(n int) bool { return n >= 0 && n <= api.MaxStamp }
