package pack

import (
	"strings"

	"corncrib/api"
)

const (
	// group is how many bits of a number each of its bytes has.
	group = 7
	// more is what is added to a byte behind which another one stands.
	more = 1 << group
	// widest is how many bytes a number may have.
	widest = 9
)

// kind is what a number above nothing may be: a count or a length, or a signed number that is folded.
type kind interface{ int | folded }

// folded is a signed number as one above nothing, so that those near to 0 are short on both sides of it.
type folded uint64

// fold answers what stands for a number of a pack.
func fold(n int) folded {
	if n < 0 {
		return 2*folded(-n) - 1
	}
	return 2 * folded(n)
}

// unfold answers the number for which n stands.
func unfold(n folded) int {
	if n%2 == 1 {
		return -int(n/2) - 1
	}
	return int(n / 2)
}

// write adds the bytes of a number.
func write[N kind](b *strings.Builder, n N) {
	for n >= more {
		b.WriteByte(byte(n%more) + more)
		n /= more
	}
	b.WriteByte(byte(n))
}

// read answers the number that stands at a place, and the place behind it; else where it is wrong, and why.
func read[N kind](s string, at int) (n N, next int, e api.Errno) {
	for i := range widest {
		place := at + i
		if place == len(s) {
			return 0, place, api.ErrEnd
		}
		b := s[place]
		if b == 0 && i > 0 { // fewer bytes would do
			return 0, at, api.ErrForm
		}
		n += N(b%more) << (group * i)
		if b < more {
			return n, place + 1, api.OK
		}
	}
	return 0, at, api.ErrForm
}
