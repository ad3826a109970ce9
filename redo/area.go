package redo

import (
	"strings"

	"corncrib/api"
)

// heads is how many sectors there are ahead of the areas.
const heads = 2

// areas is how many the rest of the sectors has.
const areas = 2

// fewest is how many sectors a device must have: for the heads, and one for each area.
const fewest = heads + areas

// sectors answers how many an area has.
func (l *Log) sectors() int { return (l.device.Size() - heads) / areas }

// most answers how many bytes find room in an area.
func (l *Log) most() int { return l.sectors() * api.Sector }

// first answers an area's first sector.
func (l *Log) first(area int) int { return heads + area*l.sectors() }

// bytes answers the log's bytes.
func (l *Log) bytes() (string, api.Errno) {
	var b strings.Builder
	for at := l.first(l.head.area); b.Len() < l.head.length; at++ {
		s, e := l.device.Read(at)
		if e != api.OK {
			return "", e
		}
		b.WriteString(s)
	}
	return b.String()[:l.head.length], api.OK
}

// settle writes bytes into an area, from a length on, and behind that the head that makes them the log's.
func (l *Log) settle(area, from int, s string) api.Errno {
	if s != "" {
		if e := l.fill(area, from, s); e != api.OK {
			return e
		}
	}
	return l.putHead(head{l.head.count + 1, area, from + len(s)})
}

// fill writes bytes into an area, from a length on, and lets them be on the device.
func (l *Log) fill(area, from int, s string) api.Errno {
	at := l.first(area) + from/api.Sector
	old, e := l.device.Read(at)
	if e != api.OK {
		return e
	}
	// What the log has already in the first of these sectors is written with the same bytes again: a torn one does not harm it.
	for rest := old[:from%api.Sector] + s; rest != ""; at++ {
		n := min(len(rest), api.Sector)
		if e := l.device.Write(at, padded(rest[:n])); e != api.OK {
			return e
		}
		rest = rest[n:]
	}
	return l.device.Flush()
}

// padded answers a sector's bytes: the given ones, and bytes 0 behind them.
func padded(s string) string { return s + strings.Repeat("\x00", api.Sector-len(s)) }
