package sum

import (
	"math"
	"slices"
	"strings"
	"testing"

	"corncrib/api"
)

// Promise 5.1: frames that are worked out.
func TestKnownFrames(t *testing.T) {
	for text, want := range map[string]string{
		"":          "\x00\x00\xff\x12\xd9\x41",
		"a":         "\x01\x00a\xeb\xe2\x36\xc4",
		"123456789": "\x09\x00123456789\xe1\xa2\x37\x3d",
	} {
		if s, e := Frame(text); s != want || e != api.OK {
			t.Errorf("%q: %d, %q; not %q", text, e, s, want)
		}
	}
}

// Promise 5.1: frames of texts of all lengths: the length, the text, the sum of both.
func TestFrames(t *testing.T) {
	s := seed(4)
	for n := 0; n <= 4096; n++ {
		text := s.text(n)
		f, e := Frame(text)
		if e != api.OK || len(f) != n+6 {
			t.Fatalf("%d bytes: %d, a frame of %d", n, e, len(f))
		}
		if f[:2] != bytesOf(2, n) || f[2:n+2] != text {
			t.Errorf("%d bytes: a length of %x", n, f[:2])
		}
		if n%16 < 2 && f != hand(text) {
			t.Errorf("%d bytes: a sum of %x, not %x", n, f[n+2:], hand(text)[n+2:])
		}
	}
}

// Promise 5.1: a text of more than 4096 bytes has no frame.
func TestTooLongForAFrame(t *testing.T) {
	for _, n := range []int{4097, 4098, 5000, 8192, 65535, 65536, 65537, 69632, 1 << 20} {
		if s, e := Frame(strings.Repeat("a", n)); s != "" || e != api.ErrLong {
			t.Errorf("%d bytes: %d, %d bytes", n, e, len(s))
		}
	}
}

// Promise 5.2: frames one behind the other are found one by one.
func TestNextByNext(t *testing.T) {
	s := seed(5)
	for _, n := range lengths() {
		l := []string{"", s.text(n), "", s.text(n / 2), s.text(n), "end"}
		all := frames(l...)
		at := 0
		for _, text := range l {
			found(t, n, all, at, text, at+len(text)+6)
			at += len(text) + 6
		}
		if at != len(all) {
			t.Fatal(at, len(all))
		}
		refused(t, n, all, at, api.ErrEnd)
	}
}

// Promise 5.2: a place that is not from 0 to the length of the bytes.
func TestNoPlace(t *testing.T) {
	for _, s := range []string{"", "a", hand(""), hand("abc"), hand(strings.Repeat("a", 4096)), framed(4097, "")} {
		for _, at := range []int{-1, -2, -len(s), -len(s) - 1, math.MinInt, -1 << 32, len(s) + 1, len(s) + 2, 2*len(s) + 7, 1 << 32, math.MaxInt, math.MaxInt - 1} {
			if at >= 0 && at <= len(s) {
				continue
			}
			refused(t, len(s), s, at, api.ErrRange)
		}
		refused(t, len(s), s, len(s), api.ErrEnd)
	}
}

// Promise 5.2: bytes that end within the length's bytes end early, whatever they are.
func TestEndWithinLength(t *testing.T) {
	for _, ahead := range []string{"", "x", hand("abc")} {
		refused(t, ahead, ahead, len(ahead), api.ErrEnd)
		for a := range 256 {
			refused(t, a, ahead+string([]byte{byte(a)}), len(ahead), api.ErrEnd)
		}
	}
}

// Promise 5.2: a length above 4096 is too long, whether the bytes end or not; one of 4096 is not.
func TestLongLength(t *testing.T) {
	for _, n := range []int{4097, 4098, 4351, 4352, 8192, 32768, 65280, 65535} {
		refused(t, n, bytesOf(2, n), 0, api.ErrLong)
		refused(t, n, bytesOf(2, n)+"abc", 0, api.ErrLong)
		refused(t, n, hand("")+bytesOf(2, n), 6, api.ErrLong)
		refused(t, n, framed(n, strings.Repeat("a", n)), 0, api.ErrLong)
		refused(t, n, bytesOf(2, n)+strings.Repeat("a", n+4), 0, api.ErrLong)
	}
	most := strings.Repeat("a", 4096)
	found(t, "most", hand(most), 0, most, 4102)
	refused(t, "most, cut", hand(most)[:4101], 0, api.ErrEnd)
	refused(t, "most, cut", bytesOf(2, 4096), 0, api.ErrEnd)
	refused(t, "most, of another sum", bytesOf(2, 4096)+most+"\x00\x00\x00\x00", 0, api.ErrSum)
}

// Promise 5.2: every number of two bytes is read as a length, the lower byte first.
func TestEachLength(t *testing.T) {
	for n := range 1 << 16 {
		s := bytesOf(2, n)
		want := api.ErrEnd
		if n > 4096 {
			want = api.ErrLong
		}
		refused(t, n, s, 0, want)
	}
}

// Promises 5.2, 5.3: a frame that is cut short anywhere ends early, within the text and the sum too.
func TestCutFrames(t *testing.T) {
	s := seed(6)
	for _, n := range lengths() {
		ahead, f := s.text(n%5), hand(s.text(n))
		for cut := range len(f) {
			if n > 300 && cut%37 > 1 && len(f)-cut > 8 {
				continue
			}
			refused(t, cut, f[:cut], 0, api.ErrEnd)
			refused(t, cut, ahead+f[:cut], len(ahead), api.ErrEnd)
		}
		found(t, n, f, 0, f[2:n+2], n+6)
	}
}

// Promise 5.2: a sum that is another one is told, even if only one of its bytes is.
func TestOtherSums(t *testing.T) {
	for _, text := range []string{"", "a", "abc", strings.Repeat("\x00", 40)} {
		s := hand(text)[:len(text)+2]
		x := byWords(s)
		for _, y := range []int{0, x - 1, x + 1, x ^ 1<<31, x ^ 1<<24, x ^ 1<<16, x ^ 1<<8, x ^ 4294967295, byWords(text)} {
			if y != x {
				refused(t, y, s+bytesOf(4, y), 0, api.ErrSum)
			}
		}
		high := []byte(bytesOf(4, x))
		slices.Reverse(high)
		refused(t, "the highest first", s+string(high), 0, api.ErrSum)
	}
}

// Promises 5.2, 5.3: a frame is found, whatever stands ahead of it and behind it.
func TestWhateverStandsBehind(t *testing.T) {
	s := seed(7)
	for _, n := range lengths() {
		text := s.text(n)
		for _, behind := range []string{"", "\x00", "\xff", hand("next"), hand("next")[:5], s.text(1000), framed(4097, "")} {
			found(t, n, hand(text)+behind, 0, text, n+6)
			ahead := s.text(s.next(50))
			found(t, n, ahead+hand(text)+behind, len(ahead), text, len(ahead)+n+6)
		}
	}
}

// Promise 5.2: All tells all texts, and that the bytes end with them.
func TestAllFrames(t *testing.T) {
	told(t, "nothing", "", nil, 0, api.OK)
	told(t, "one of no bytes", hand(""), []string{""}, 6, api.OK)
	told(t, "some", frames("a", "", "bc", ""), []string{"a", "", "bc", ""}, 27, api.OK)
	s := seed(8)
	for n := range 40 {
		var l []string
		for range n {
			l = append(l, s.text(s.next(1+s.next(4097))))
		}
		told(t, n, frames(l...), l, len(frames(l...)), api.OK)
	}
	empty := strings.Repeat(hand(""), 5000)
	told(t, "many", empty, make([]string, 5000), 30000, api.OK)
}

// Promise 5.2: All tells the frames ahead of one that is wrong, its place, and Next's error there; none behind it.
func TestAllUpToAFault(t *testing.T) {
	ahead := []string{"first", "", "second", strings.Repeat("a", 4096), "third"}
	long := hand(strings.Repeat("a", 300))
	for n := range len(ahead) + 1 {
		s := frames(ahead[:n]...)
		for _, x := range []struct {
			s string
			e api.Errno
		}{
			{"\x05", api.ErrEnd}, {"\xff", api.ErrEnd}, {"\x00\x00", api.ErrEnd}, {long[:2], api.ErrEnd}, {long[:300], api.ErrEnd}, {long[:305], api.ErrEnd},
			{framed(4097, strings.Repeat("b", 4097)), api.ErrLong}, {"\xff\xff", api.ErrLong}, {"\x01\x10" + frames("x", "y"), api.ErrLong},
			{turned(long, 20), api.ErrSum}, {turned(long, 8*306-1) + frames("x", "y"), api.ErrSum}, {"\x00\x00\x00\x00\x00\x00", api.ErrSum}, {strings.Repeat("\x00", 100), api.ErrSum},
		} {
			told(t, []int{n, len(x.s)}, s+x.s, ahead[:n], len(s), x.e)
		}
	}
}

// Promise 5.2: All tells what Next by Next does, wherever the bytes are cut or changed.
func TestAllIsNextByNext(t *testing.T) {
	s := seed(9)
	for range 300 {
		whole := frames(s.text(s.next(40)), s.text(s.next(9)), "", s.text(s.next(80)))
		for _, b := range []string{whole, whole[:s.next(len(whole))], turned(whole, s.next(8*len(whole))), whole + s.text(s.next(9))} {
			var l []string
			at, e := 0, api.OK
			for at < len(b) {
				text, next, f := Next(b, at)
				if f != api.OK {
					e = f
					break
				}
				l, at = append(l, text), next
			}
			told(t, len(b), b, l, at, e)
		}
	}
}
