package redo

import (
	"strconv"
	"strings"
	"testing"

	"corncrib/api"
)

// Promise 10.1: no device.
func TestNoDevice(t *testing.T) { refused(t, "none", nil, api.ErrNone) }

// Promise 10.1: a device of fewer than 4 sectors, whatever is in them, and whether it is up.
func TestFewSectors(t *testing.T) {
	for n := 1; n <= 3; n++ {
		d := device(t, n)
		refused(t, "few", d, api.ErrShape)
		holds(t, d, 0, zeros(64))
		lay(t, d, 0, headOf(2, 0, 0))
		refused(t, "few, with a head", d, api.ErrShape)
		told(t, "fuse", d.Fuse(1), api.OK)
		told(t, "flush", d.Flush(), api.ErrDown)
		refused(t, "few, down", d, api.ErrShape)
	}
}

// Promise 10.1: a device without a head gets the first one, and nothing else.
func TestNewDevice(t *testing.T) {
	for n, room := range map[int]int{4: 64, 5: 64, 6: 128, 7: 128, 8: 192, 2047: 65408, 2048: 65472} {
		d := device(t, n)
		l := opened(t, d)
		has(t, l, room, 0)
		holds(t, d, 0, zeros(64), headOf(1, 0, 0))
		for at := 2; at < n; at++ {
			holds(t, d, at, zeros(64))
		}
	}
}

// Promise 10.1: what else is on a device without a head stays there.
func TestNewLogAmongOtherBytes(t *testing.T) {
	d := device(t, 6)
	for at := range 6 {
		lay(t, d, at, full(64, "other "+strconv.Itoa(at)))
	}
	has(t, opened(t, d), 128, 0)
	holds(t, d, 0, full(64, "other 0"), headOf(1, 0, 0), full(64, "other 2"), full(64, "other 3"), full(64, "other 4"), full(64, "other 5"))
}

// Promise 10.1: a device that has a log is read alone.
func TestOpenOnlyReads(t *testing.T) {
	d, _ := fresh(t, 10, "first", "", "second")
	had := image(t, d)
	told(t, "fuse", d.Fuse(1), api.OK)
	for range 3 {
		has(t, opened(t, d), 256-29, 3, "first", "", "second")
	}
	holds(t, d, 0, had...)
	told(t, "flush", d.Flush(), api.ErrDown)
}

// Promise 10.1: a device that is down is not opened, with a head and without one.
func TestOpenDown(t *testing.T) {
	d, _ := fresh(t, 10, "first")
	told(t, "fuse", d.Fuse(1), api.OK)
	told(t, "flush", d.Flush(), api.ErrDown)
	refused(t, "down", d, api.ErrDown)
	d.Crash()
	keeps(t, d, "first")
	n := device(t, 4)
	told(t, "fuse", n.Fuse(1), api.OK)
	told(t, "flush", n.Flush(), api.ErrDown)
	refused(t, "down, new", n, api.ErrDown)
}

// Promise 10.1: of a device without a head the first one's write and the flush behind it may be refused.
func TestOpenRefused(t *testing.T) {
	for n := 1; n <= 2; n++ {
		d := device(t, 6)
		told(t, "fuse", d.Fuse(n), api.OK)
		refused(t, "fuse", d, api.ErrDown)
		if d.Dirty() != n-1 {
			t.Errorf("fuse %d: %d in the cache", n, d.Dirty())
		}
	}
	d := device(t, 6)
	told(t, "fuse", d.Fuse(3), api.OK)
	has(t, opened(t, d), 128, 0)
	told(t, "flush", d.Flush(), api.ErrDown)
}

// Promise 10.1: a head in either sector, of any count that may be, tells the area and the length.
func TestOneHead(t *testing.T) {
	for _, at := range []int{0, 1} {
		for _, count := range []uint64{1, 2, 3, 255, 256, 1 << 32, 1<<62 - 1, 1 << 62} {
			for area, want := range []string{"in the first", "in the other"} {
				d := device(t, 7)
				layBytes(t, d, 2, frames("in the first"))
				layBytes(t, d, 4, frames("in the other"))
				lay(t, d, at, headOf(count, byte(area), 18))
				had := image(t, d)
				has(t, opened(t, d), 128-18, 1, want)
				holds(t, d, 0, had...)
			}
		}
	}
}

// Promise 10.1: a length may be from 0 to that of an area.
func TestLengthsOfHeads(t *testing.T) {
	for _, n := range []int{4, 5, 6, 7, 9, 2048} {
		most := (n - 2) / 2 * 64
		for area := range 2 {
			var texts []string
			for rest := most; rest > 0; {
				k := min(rest, 4102)
				if rest-k > 0 && rest-k < 6 {
					k -= 6
				}
				texts = append(texts, textIn(k))
				rest -= k
			}
			d := device(t, n)
			layBytes(t, d, 2+area*most/64, frames(texts...))
			lay(t, d, 0, headOf(2, byte(area), uint64(most)))
			has(t, opened(t, d), 0, len(texts), texts...)
			lay(t, d, 1, headOf(3, byte(area), 0))
			has(t, opened(t, d), most, 0)
			lay(t, d, 1, headOf(3, byte(area), uint64(most+1)))
			has(t, opened(t, d), 0, len(texts), texts...)
			lay(t, d, 0, zeros(64))
			has(t, opened(t, d), most, 0)
			holds(t, d, 0, zeros(64), headOf(1, 0, 0))
		}
	}
}

// noHeads answers sectors that are no heads of a device of 7 sectors, for each what is wrong.
func noHeads() map[string]string {
	text, like := headText(9, 0, 18), headText(9, 0, 12)
	l := map[string]string{
		"bytes 0": zeros(64), "count 0": headOf(0, 0, 18), "count 2^62 + 1": headOf(1<<62+1, 0, 18), "count 2^63": headOf(1<<63, 0, 18),
		"count 2^63 + 9": headOf(1<<63+9, 0, 18), "count 2^64 - 1": headOf(1<<64-1, 0, 18),
		"area 2": headOf(9, 2, 18), "area 3": headOf(9, 3, 18), "area 128": headOf(9, 128, 18), "area 255": headOf(9, 255, 18),
		"length 64 A + 1": headOf(9, 0, 129), "length 64 A + 64": headOf(9, 0, 192), "length 2^62": headOf(9, 0, 1<<62), "length 2^63": headOf(9, 0, 1<<63),
		"length 2^63 + 18": headOf(9, 0, 1<<63+18), "length 2^64 - 1": headOf(9, 0, 1<<64-1),
		"last byte 1": text + text + text + "\x01", "last byte 255": text + text + text + "\xff", "last byte R": text + text + text + "R",
		"first unlike": like + text + text + "\x00", "second unlike": text + like + text + "\x00", "third unlike": text + text + like + "\x00",
		"all unlike": text + like + headText(9, 1, 18) + "\x00", "one and bytes 0": text + zeros(43), "two and bytes 0": text + text + zeros(22),
		"byte 0 ahead": "\x00" + text + text + text, "small letters": strings.ToLower(headOf(9, 0, 18)),
		"lowest first": strings.Repeat("REDO\x09"+zeros(8)+"\x12"+zeros(7), 3) + "\x00",
	}
	for bit := range 512 {
		b := []byte(headOf(9, 0, 18))
		b[bit/8] ^= 1 << (bit % 8)
		l["bit "+strconv.Itoa(bit)+" turned"] = string(b)
	}
	return l
}

// Promise 10.1: a sector that is no head does not count: if neither is one, the log begins anew; else that of the other one is the log's.
func TestNoHeads(t *testing.T) {
	for what, s := range noHeads() {
		for at := range 2 {
			d := device(t, 7)
			layBytes(t, d, 2, frames("in the first"))
			layBytes(t, d, 4, frames("in the other"))
			lay(t, d, at, s)
			both := same(t, d)
			if l, e := Open(d); e != api.OK || len(l.Texts()) != 0 {
				t.Errorf("%s in the sector %d: %d", what, at, e)
			}
			want := []string{s, headOf(1, 0, 0)}
			if at == 1 {
				want[0] = zeros(64)
			}
			holds(t, d, 0, want...)
			lay(t, both, 1-at, headOf(3, 1, 18))
			if l, e := Open(both); e != api.OK || strings.Join(l.Texts(), "/") != "in the other" {
				t.Errorf("%s in the sector %d, a head in the other: %d", what, at, e)
			}
			holds(t, both, at, s)
		}
	}
}

// Promise 10.1: neither sector is a head, though both look like one.
func TestNoHeadInBoth(t *testing.T) {
	d := device(t, 4)
	lay(t, d, 0, headOf(0, 0, 0))
	lay(t, d, 1, headOf(1<<62+1, 0, 0))
	has(t, opened(t, d), 64, 0)
	holds(t, d, 0, headOf(0, 0, 0), headOf(1, 0, 0))
}

// Promise 10.1: of two heads that with the greater count counts; of the same count that of the sector 0.
func TestTwoHeads(t *testing.T) {
	for _, x := range []struct {
		zero, one uint64
		want      int
	}{
		{1, 1, 0}, {2, 2, 0}, {1 << 62, 1 << 62, 0}, {2, 1, 0}, {1, 2, 1}, {2, 3, 1}, {4, 3, 0}, {3, 4, 1}, {256, 255, 0}, {256, 257, 1}, {1 << 40, 1, 0}, {1, 1 << 40, 1},
		{1 << 62, 1<<62 - 1, 0}, {1<<62 - 2, 1<<62 - 1, 1}, {1, 1 << 62, 1}, {200, 100, 0}, {100, 200, 1},
	} {
		for swap := range 2 { // the areas of the heads, each way
			d := device(t, 9)
			layBytes(t, d, 2+3*swap, frames("of zero"))
			layBytes(t, d, 2+3*(1-swap), frames("of one", "more"))
			lay(t, d, 0, headOf(x.zero, byte(swap), 13))
			lay(t, d, 1, headOf(x.one, byte(1-swap), 22))
			had := image(t, d)
			l := opened(t, d)
			if x.want == 0 {
				has(t, l, 192-13, 1, "of zero")
			} else {
				has(t, l, 192-22, 2, "of one", "more")
			}
			holds(t, d, 0, had...)
		}
	}
}

// Promise 10.1: bytes that are no frames are rot, of each kind, ahead of frames, among them and behind them; nothing is written then.
func TestRot(t *testing.T) {
	long := frame(full(100, "long"))
	whole := map[string]string{
		"too long": "\x01\x10" + zeros(30), "much too long": "\xff\xff", "bytes 0": zeros(20), "six bytes 0": zeros(6),
		"another sum": long[:105] + string([]byte{long[105] ^ 1}), "another text": long[:9] + "X" + long[10:], "another length": "\x63" + long[1:],
	}
	cut := map[string]string{
		"ends in the length": long[:1], "ends behind the length": long[:2], "ends in the text": long[:50], "ends behind the text": long[:102], "ends in the sum": long[:105], "a byte 0": "\x00",
	}
	for _, ahead := range []string{"", frame(""), frames("some", "texts"), frame(full(300, "a"))} {
		for what, s := range cut {
			rotten(t, what, ahead+s)
		}
		for what, s := range whole {
			rotten(t, what, ahead+s)
			rotten(t, what+", frames behind", ahead+s+frames("behind", ""))
		}
	}
}

// rotten fails, unless a log of these bytes, in either area, is refused, whatever the head has that does not count.
func rotten(t *testing.T, what, s string) {
	t.Helper()
	for area := range 2 {
		d := device(t, 22)
		layBytes(t, d, 2+10*area, s)
		lay(t, d, area, headOf(8, byte(area), uint64(len(s))))
		layBytes(t, d, 2+10*(1-area), frame("well"))
		lay(t, d, 1-area, headOf(7, byte(1-area), 10))
		had := image(t, d)
		told(t, "fuse", d.Fuse(1), api.OK)
		refused(t, what, d, api.ErrRot)
		holds(t, d, 0, had...)
		told(t, "the fuse is there", d.Flush(), api.ErrDown)
	}
}

// Promise 10.1: what stands behind the log's bytes, and ahead of them, does not matter.
func TestBytesBehind(t *testing.T) {
	for _, behind := range []string{"", "\x00", "\xff\xff\xff", frame("more"), frame("more")[:5], full(500, "rubbish")} {
		d := device(t, 22)
		layBytes(t, d, 2, full(640, "the other area"))
		layBytes(t, d, 12, frames("one", "", "two")+behind)
		lay(t, d, 1, headOf(7, 1, 24))
		has(t, opened(t, d), 640-24, 3, "one", "", "two")
	}
}

// Promise 10.1: all frames of an area's bytes, whatever their lengths, are a log's texts.
func TestAllTexts(t *testing.T) {
	m := newMaker(1)
	for range 200 {
		sectors := 4 + m.IntN(300)
		area := (sectors - 2) / 2
		texts := m.texts(64 * area)
		in := m.IntN(2)
		d := device(t, sectors)
		s := frames(texts...)
		layBytes(t, d, 2+in*area, s)
		lay(t, d, m.IntN(2), headOf(1+m.Uint64N(1<<62), byte(in), uint64(len(s))))
		has(t, opened(t, d), 64*area-len(s), len(texts), texts...)
	}
	many := make([]string, 10912)
	d := device(t, 2048)
	layBytes(t, d, 2, frames(many...))
	lay(t, d, 0, headOf(2, 0, 65472))
	has(t, opened(t, d), 0, 10912, many...)
}
