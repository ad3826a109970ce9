package sum

import (
	"strings"

	"corncrib/api"
)

// most is how long a frame's text may be.
const most = 4096

// A frame is its text between these: the length's bytes ahead of it, the sum's behind.
const (
	head = 2
	tail = 4
)

// Frame answers the text's frame.
func Frame(text string) (string, api.Errno) {
	if len(text) > most {
		return "", api.ErrLong
	}
	length := low(head, len(text))
	return length + text + low(tail, Of(length, text)), api.OK
}

// Next answers the text of the frame at that place, and the place behind it.
func Next(s string, at int) (text string, next int, e api.Errno) {
	if at < 0 || at > len(s) {
		return "", 0, api.ErrRange
	}
	rest := s[at:]
	if len(rest) < head {
		return "", 0, api.ErrEnd
	}
	n := number(rest[:head])
	if n > most {
		return "", 0, api.ErrLong
	}
	end := head + n
	if len(rest) < end+tail {
		return "", 0, api.ErrEnd
	}
	if number(rest[end:end+tail]) != Of(rest[:end]) {
		return "", 0, api.ErrSum
	}
	// A piece of s would share its memory.
	return strings.Clone(rest[head:end]), at + end + tail, api.OK
}

// All answers the texts of the frames from the front on, the place behind the last one that is right, and what is wrong there.
func All(s string) (l []string, at int, e api.Errno) {
	for at < len(s) {
		text, next, e := Next(s, at)
		if e != api.OK {
			return l, at, e
		}
		l = append(l, text)
		at = next
	}
	return l, at, api.OK
}

// low writes a number as n bytes, the lowest first.
func low(n, x int) string {
	b := make([]byte, n)
	for i := range b {
		b[i] = byte(x >> (8 * i))
	}
	return string(b)
}

// number reads what low writes.
func number(s string) int {
	x := 0
	for i := range len(s) {
		x |= int(s[i]) << (8 * i)
	}
	return x
}
