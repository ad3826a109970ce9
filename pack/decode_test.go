package pack

import (
	"strings"
	"testing"

	"corncrib/api"
)

// Promise 6.2: bytes that end at each place of a pack end early, and that is told at their end; whole they do not.
func TestEndAnywhere(t *testing.T) {
	for _, p := range some() {
		s := hand(p)
		for cut := range len(s) {
			refused(t, s[:cut], cut, api.ErrEnd)
		}
		written(t, p, s)
	}
	refused(t, "", 0, api.ErrEnd)
}

// Promise 6.2: the end within a number of each length, a count, a length and a text.
func TestEndWithin(t *testing.T) {
	for n := range 9 {
		s := strings.Repeat("\x80", n)
		refused(t, s, n, api.ErrEnd)
		refused(t, "\x01"+s, n+1, api.ErrEnd)
		refused(t, "\x00"+s, n+1, api.ErrEnd)
		refused(t, "\x00\x01"+s, n+2, api.ErrEnd)
	}
	refused(t, "\xff\xff", 2, api.ErrEnd)
	refused(t, "\x80\x08", 2, api.ErrEnd)
	refused(t, "\x00\x80\x08", 3, api.ErrEnd)
	refused(t, "\x00\x01\x80\x20", 4, api.ErrEnd)
	refused(t, "\x00\x01\x80\x20"+strings.Repeat("x", 4095), 4099, api.ErrEnd)
	refused(t, "\x00\x02\x03abc\x03ab", 9, api.ErrEnd)
}

// Promise 6.2: a byte behind a whole pack, whichever it is, and whatever follows.
func TestByteBehind(t *testing.T) {
	for _, p := range some() {
		s := hand(p)
		for b := range 256 {
			refused(t, s+string([]byte{byte(b)}), len(s), api.ErrForm)
		}
		refused(t, s+s, len(s), api.ErrForm)
		refused(t, s+strings.Repeat("\xff", 20), len(s), api.ErrForm)
	}
}

// inEachPlace does a thing with what stands ahead of each kind of number: a first count, a number, a second count, a length.
func inEachPlace(do func(ahead string)) {
	do("")
	do("\x01")
	do("\x03\x00\x80\x01")
	do("\x00")
	do("\x02\x05\xff\x7f")
	do("\x00\x01")
	do("\x01\x07\x03\x01a\x02bc")
}

// Promise 6.2: a last byte 0 behind others is told at the number's first byte.
func TestLastByteNothing(t *testing.T) {
	for n := 1; n <= 8; n++ {
		for _, b := range []string{"\x80", "\xff", "\x81"} {
			inEachPlace(func(ahead string) {
				s := ahead + strings.Repeat(b, n) + "\x00"
				refused(t, s, len(ahead), api.ErrForm)
				refused(t, s+"\x00\x00", len(ahead), api.ErrForm)
			})
		}
	}
}

// Promise 6.2: nine bytes of 128 or more are a number of more than nine, at the end of the bytes, too, whatever follows.
func TestTooWide(t *testing.T) {
	for _, b := range []string{"\x80", "\xff", "\x81"} {
		inEachPlace(func(ahead string) {
			s := ahead + strings.Repeat(b, 9)
			refused(t, ahead+strings.Repeat(b, 8), len(ahead)+8, api.ErrEnd)
			for _, behind := range []string{"", "\x00", "\x01", "\x7f", "\x80", "\xff\xff\xff", strings.Repeat(b, 50), strings.Repeat("\x01", 50)} {
				refused(t, s+behind, len(ahead), api.ErrForm)
			}
		})
	}
}

// Promise 6.2: each number of nine bytes is a pack's.
func TestWidest(t *testing.T) {
	for last := 1; last < 128; last++ {
		for _, b := range []string{"\x80", "\xff", "\x81"} {
			s := "\x01" + strings.Repeat(b, 8) + string([]byte{byte(last)}) + "\x00"
			asByWords(t, s)
			if p, _, e := Decode(s); e != api.OK || Check(p) != api.OK {
				t.Errorf("%x: %d, %s", s, e, told(p))
			}
		}
	}
}

// Promise 6.2: a count above api.MaxItems is told at its first byte, whatever follows.
func TestGreatCount(t *testing.T) {
	for _, n := range []uint64{1025, 1026, 2047, 2048, 4096, 1 << 14, 1 << 16, 1<<31 - 1, 1 << 32, 1 << 32 * 5, 1 << 62, 1<<63 - 1} {
		for _, behind := range []string{"", "\x00", strings.Repeat("\x00", 5000), "\x80\x00"} {
			refused(t, bare(n)+behind, 0, api.ErrLong)
			refused(t, "\x00"+bare(n)+behind, 1, api.ErrLong)
			refused(t, "\x02\x80\x01\x03"+bare(n)+behind, 4, api.ErrLong)
		}
	}
	refused(t, bare(1024), 2, api.ErrEnd)
	refused(t, "\x00"+bare(1024), 3, api.ErrEnd)
}

// Promise 6.2: a length above 4096 is told at its first byte, whether so many bytes follow or not.
func TestGreatLength(t *testing.T) {
	for _, n := range []uint64{4097, 4098, 8191, 8192, 1 << 14, 1 << 16, 1 << 31, 1 << 32, 1<<32 + 1, 1 << 62, 1<<63 - 2, 1<<63 - 1} {
		for _, behind := range []string{"", "\x00", strings.Repeat("x", 9000), "\x80\x00"} {
			refused(t, "\x00\x01"+bare(n)+behind, 2, api.ErrLong)
			refused(t, "\x00\x02\x01a"+bare(n)+behind, 4, api.ErrLong)
			refused(t, "\x01\x80\x01\x03\x00\x00"+bare(n)+behind, 6, api.ErrLong)
		}
	}
	refused(t, "\x00\x01"+bare(4096), 4, api.ErrEnd)
}

// Promise 6.2: the first place counts: what is wrong behind it is not told.
func TestFirstPlace(t *testing.T) {
	refused(t, "\x02\x80\x00\xff\xff\xff", 1, api.ErrForm)
	refused(t, "\x02\x00\x80\x00\x81\x08", 2, api.ErrForm)
	refused(t, "\x81\x08\x80\x00", 0, api.ErrLong)
	refused(t, "\x80\x00\x81\x08", 0, api.ErrForm)
	refused(t, "\x00\x02\x81\x20\x80\x00", 2, api.ErrLong)
	refused(t, "\x00\x02\x80\x00\x81\x20", 2, api.ErrForm)
	refused(t, "\x00\x01\x05\x80\x00\x81", 6, api.ErrEnd)
	refused(t, "\x00\x00\x80\x00", 2, api.ErrForm)
}

// Promise 6.2: all bytes that are short, and longer ones of bytes that matter: Decode tells what the words say.
func TestShortBytes(t *testing.T) {
	asByWords(t, "")
	for a := range 256 {
		asByWords(t, string([]byte{byte(a)}))
		for b := range 256 {
			two := string([]byte{byte(a), byte(b)})
			asByWords(t, two)
			for _, c := range "\x00\x01\x02\x7f" {
				asByWords(t, two+string(c))
			}
		}
	}
	var grow func(s string)
	grow = func(s string) {
		asByWords(t, s)
		if len(s) == 7 {
			return
		}
		for _, b := range []byte{0, 1, 2, 8, 128, 129} {
			grow(s + string([]byte{b}))
		}
	}
	grow("")
}

// Promises 6.2, 6.3: packs with some bytes changed, taken out or put in: Decode tells what the words say.
func TestChangedBytes(t *testing.T) {
	m := newMaker(5)
	right := 0
	for range 60000 {
		b := []byte(hand(m.pack(m.IntN(6), m.IntN(5))))
		for range m.IntN(4) {
			if len(b) == 0 {
				break
			}
			at := m.IntN(len(b))
			switch m.IntN(5) {
			case 0:
				b[at] ^= 1 << m.IntN(8)
			case 1:
				b[at] = []byte{0, 1, 127, 128, 255}[m.IntN(5)]
			case 2:
				b = append(b[:at], b[at+1:]...)
			case 3:
				b = append(b[:at], append([]byte(strings.Repeat("\xff", 1+m.IntN(10))), b[at:]...)...)
			case 4:
				b = b[:at]
			}
		}
		asByWords(t, string(b))
		if _, _, e := Decode(string(b)); e == api.OK {
			right++
		}
	}
	if right < 1000 || right > 59000 {
		t.Errorf("%d are packs: too few of one kind", right)
	}
}
