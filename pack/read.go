package pack

import (
	"strings"

	"corncrib/api"
)

// readList answers the items that stand behind their count, and the place behind them; else the place of the fault, and what it is. (So do those below.)
func readList[T any](s string, at int, item func(s string, at int) (T, int, api.Errno)) (l []T, next int, e api.Errno) {
	count, next, e := readUpTo(api.MaxItems, s, at)
	if e != api.OK {
		return nil, next, e
	}
	for range count {
		var x T
		if x, next, e = item(s, next); e != api.OK {
			return nil, next, e
		}
		l = append(l, x)
	}
	return l, next, api.OK
}

// readUpTo answers a count or a length, which is not above most.
func readUpTo(most int, s string, at int) (n, next int, e api.Errno) {
	n, next, e = read[int](s, at)
	if n > most {
		return 0, at, api.ErrLong
	}
	return n, next, e
}

// readSigned answers a signed number.
func readSigned(s string, at int) (n, next int, e api.Errno) {
	bare, next, e := read[folded](s, at)
	return unfold(bare), next, e
}

// readText answers a text behind its length.
func readText(s string, at int) (text string, next int, e api.Errno) {
	long, at, e := readUpTo(longest, s, at)
	if e != api.OK {
		return "", at, e
	}
	if long > len(s)-at {
		return "", len(s), api.ErrEnd
	}
	// A piece of s would share its memory.
	return strings.Clone(s[at : at+long]), at + long, api.OK
}
