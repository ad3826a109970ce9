package redo

import (
	"strings"

	"corncrib/api"
)

// mark is what a head's text begins with.
const mark = "REDO"

// A head's text has these numbers behind its mark, each from one place to the next one.
const (
	countAt  = len(mark)
	areaAt   = countAt + 8
	lengthAt = areaAt + 1
	textEnd  = lengthAt + 8
)

// copies is how often a head's text stands in its sector.
const copies = 3

// mostCount is the greatest count of a head.
const mostCount = 1 << 62

// head tells which bytes are the log's: so many, from an area's beginning on.
type head struct{ count, area, length int }

// sector answers a head's sector.
func (h head) sector() string {
	text := mark + high(h.count) + string([]byte{byte(h.area)}) + high(h.length)
	return strings.Repeat(text, copies) + "\x00"
}

// readHead answers the head of the sector 0 or 1; one of the count 0, if the sector is none.
func (l *Log) readHead(at int) (head, api.Errno) {
	s, e := l.device.Read(at)
	if e != api.OK {
		return head{}, e
	}
	count, area, length := number(s[countAt:areaAt]), int(s[areaAt]), number(s[lengthAt:textEnd])
	// A number may be so great that it would be one below 0 as an int.
	if count < 1 || count > mostCount || area > 1 || length > uint64(l.most()) {
		return head{}, api.OK
	}
	h := head{int(count), area, int(length)}
	if s != h.sector() {
		return head{}, api.OK
	}
	return h, api.OK
}

// newest answers the head that counts; one of the count 0, if neither sector is a head.
func (l *Log) newest() (head, api.Errno) {
	read := (*Log).readHead
	zero, e := read(l, 0)
	if e != api.OK {
		return head{}, e
	}
	one, e := read(l, 1)
	if e != api.OK {
		return head{}, e
	}
	if one.count > zero.count {
		return one, api.OK
	}
	return zero, api.OK
}

// start finds the head that counts, or writes the first one.
func (l *Log) start() api.Errno {
	h, e := l.newest()
	if e != api.OK {
		return e
	}
	if h.count == 0 {
		return l.putHead(head{count: 1})
	}
	l.head = h
	return api.OK
}

// putHead writes a head, which is the one that counts then.
func (l *Log) putHead(h head) api.Errno {
	// The head of the count ahead stands in the other sector: a torn one does not harm it.
	if e := l.device.Write(h.count%2, h.sector()); e != api.OK {
		return e
	}
	if e := l.device.Flush(); e != api.OK {
		return e
	}
	l.head = h
	return api.OK
}

// high writes a number as eight bytes, the highest first.
func high(x int) string {
	b := make([]byte, 8)
	for i := range b {
		b[i] = byte(x >> (56 - 8*i))
	}
	return string(b)
}

// number reads what high writes.
func number(s string) uint64 {
	x := uint64(0)
	for i := range len(s) {
		x = x<<8 | uint64(s[i])
	}
	return x
}
