package sum

import (
	"math"
	"slices"
	"strings"
	"testing"
	"unsafe"

	"corncrib/api"
)

// Promise 5.3: what Frame makes, Next and All find again.
func TestFramedIsFound(t *testing.T) {
	s := seed(10)
	all, l := "", []string(nil)
	for _, n := range lengths() {
		for _, text := range []string{s.text(n), strings.Repeat("\x00", n), strings.Repeat("\xff", n)} {
			f, _ := Frame(text)
			found(t, n, f, 0, text, len(f))
			found(t, n, all+f, len(all), text, len(all+f))
			all, l = all+f, append(l, text)
			told(t, n, all, l, len(all), api.OK)
		}
	}
}

// anyFault fails, unless Next and All refuse the bytes, in whatever way.
func anyFault(t *testing.T, what any, s string) {
	t.Helper()
	if text, next, e := Next(s, 0); e == api.OK || text != "" || next != 0 {
		t.Errorf("%v: %d, %d bytes, next %d", what, e, len(text), next)
	}
	if l, at, e := All(s); e == api.OK || len(l) != 0 || at != 0 {
		t.Errorf("%v: %d at %d, %d texts", what, e, at, len(l))
	}
}

// Promise 5.3: a bit turned anywhere is refused, whatever stands behind; in the text or the sum, it is the sum that is wrong.
func TestBitTurned(t *testing.T) {
	s := seed(11)
	for _, n := range []int{0, 1, 2, 3, 9, 64, 257} {
		f := hand(s.text(n))
		behind := s.text(4096)
		for bit := range 8 * len(f) {
			x := turned(f, bit)
			if bit >= 16 {
				refused(t, bit, x, 0, api.ErrSum)
				refused(t, bit, x+"behind", 0, api.ErrSum)
				continue
			}
			anyFault(t, bit, x)
			anyFault(t, bit, x+behind)
		}
	}
	f := hand(s.text(4096))
	for bit := 0; bit < 8*len(f); bit += 101 {
		anyFault(t, bit, turned(f, bit))
	}
}

// Promise 5.3: so are several within 32 that follow one another.
func TestBitsTurned(t *testing.T) {
	s := seed(12)
	for _, n := range []int{0, 1, 5, 33, 150} {
		f := hand(s.text(n))
		for bit := range 8*len(f) - 31 {
			for _, pattern := range []uint32{3, 5, 0xff, 0x80000001, 0xffffffff, 0xedb88320, 1 | uint32(s.next(1<<31))<<1, 1 | uint32(s.next(1<<31))<<1} {
				x := burst(f, bit, pattern)
				anyFault(t, []int{n, bit, int(pattern)}, x)
				if bit >= 16 {
					refused(t, bit, x+"behind", 0, api.ErrSum)
				}
			}
		}
	}
}

// Promises 5.2, 5.3: where a length that was turned leads to what is a frame, that one is told, as promise 5.2 has it.
func TestFrameWithinAFrame(t *testing.T) {
	f := hand(hand("")[2:] + "more")
	found(t, "whole", f, 0, hand("")[2:]+"more", 14)
	found(t, "a length of 8 turned to 0", turned(f, 3), 0, "", 6)
}

// P1: no call panics, whatever it is given.
func TestWildArguments(t *testing.T) {
	s := seed(13)
	for n := range 3000 {
		b := []byte(s.text(n % 97))
		if len(b) > 1 {
			b[0], b[1] = byte(s.next(40)), byte(s.next(2)*s.next(2)*s.next(256))
		}
		x := string(b)
		for _, at := range []int{math.MinInt, -1, 0, 1, s.next(100), len(x) - 1, len(x), len(x) + 1, math.MaxInt - 1, math.MaxInt} {
			text, next, e := Next(x, at)
			if (at < 0 || at > len(x)) != (e == api.ErrRange) || e != api.OK && (text != "" || next != 0) || e == api.OK && hand(text) != x[at:next] {
				t.Errorf("%x at %d: %d, %x, next %d", x, at, e, text, next)
			}
		}
		l, at, e := All(x)
		if frames(l...) != x[:at] || (at == len(x)) != (e == api.OK) {
			t.Errorf("%x: %d at %d", x, e, at)
		}
	}
}

// R4: the pieces that are handed in stay, and what lies behind them is neither read nor written.
func TestPiecesStay(t *testing.T) {
	given := []string{"1234", "56789", "behind", "more"}
	kept := slices.Clone(given)
	summed(t, 3421780262, given[:2]...)
	if !slices.Equal(given, kept) {
		t.Errorf("changed: %q", given)
	}
}

// shares tells whether two texts lie, in part, in the same memory.
func shares(a, b string) bool {
	x, y := uintptr(unsafe.Pointer(unsafe.StringData(a))), uintptr(unsafe.Pointer(unsafe.StringData(b)))
	return x < y+uintptr(len(b)) && y < x+uintptr(len(a))
}

// R4: no answer shares its memory with what was handed in, with another answer, or within itself.
func TestAnswersAreNew(t *testing.T) {
	s := seed(14)
	texts := []string{s.text(1), s.text(64), s.text(4096)}
	all := frames(texts...)
	given := append(texts, all)
	var l []string
	for range 2 {
		for _, text := range texts {
			f, _ := Frame(text)
			l = append(l, f)
		}
		for at := 0; at < len(all); {
			text, next, e := Next(all, at)
			if e != api.OK {
				t.Fatal(e)
			}
			l, at = append(l, text), next
		}
		m, _, _ := All(all)
		l = append(l, m...)
	}
	for i, a := range l {
		if a == "" {
			t.Errorf("answer %d has nothing", i)
		}
		for j, b := range append(l[:i:i], given...) {
			if shares(a, b) {
				t.Errorf("answer %d shares its memory with %d", i, j)
			}
		}
	}
}

// R4: lists that are answered are new, spare room too.
func TestListsAreNew(t *testing.T) {
	for _, s := range []string{frames("a", "b", "c"), frames("a", "b", "c") + "\x00"} {
		e := api.OK
		if len(s) > 21 {
			e = api.ErrEnd
		}
		for range 3 {
			told(t, "again", s, []string{"a", "b", "c"}, 21, e)
			l, _, _ := All(s)
			l = l[:cap(l)]
			for i := range l {
				l[i] = "other"
			}
		}
	}
}

// R3, R7: nil and empty lists are the same, and the same call tells the same, whatever was asked between.
func TestSameCallSameAnswer(t *testing.T) {
	s := seed(15)
	text := s.text(100)
	want := hand(text)
	for range 3 {
		f, e := Frame(text)
		if f != want || e != api.OK {
			t.Errorf("%d, %x", e, f)
		}
		Frame(s.text(5000))
		summed(t, 0, []string(nil)...)
		summed(t, 0, []string{}...)
		summed(t, byWords(text), text)
		found(t, "again", want, 0, text, 106)
		refused(t, "turned", turned(want, 500), 0, api.ErrSum)
		told(t, "again", want+want, []string{text, text}, 212, api.OK)
	}
}
