package sum

import (
	"slices"
	"testing"

	"corncrib/api"
)

// byWords reckons a sum as chapter 5's words say it, with whole numbers; it shares nothing with the program.
func byWords(text string) int {
	x := 1<<32 - 1
	for i := 0; i < len(text); i++ {
		x ^= int(text[i])
		for range 8 {
			if x%2 == 1 {
				x = (x-1)/2 ^ 3988292384
			} else {
				x /= 2
			}
		}
	}
	return x ^ (1<<32 - 1)
}

// bytesOf writes a number as n bytes, the lowest first.
func bytesOf(n, x int) string {
	s := ""
	for range n {
		s += string([]byte{byte(x % 256)})
		x /= 256
	}
	return s
}

// framed makes a frame of a length that may be another one than the text's.
func framed(length int, text string) string {
	s := bytesOf(2, length) + text
	return s + bytesOf(4, byWords(s))
}

// hand makes a text's frame.
func hand(text string) string { return framed(len(text), text) }

// frames makes the frames of texts, one behind the other.
func frames(l ...string) string {
	s := ""
	for _, text := range l {
		s += hand(text)
	}
	return s
}

// turned answers the bytes with one bit turned.
func turned(s string, bit int) string {
	b := []byte(s)
	b[bit/8] ^= 1 << (bit % 8)
	return string(b)
}

// burst answers the bytes with some bits turned from that one on, those that pattern has.
func burst(s string, bit int, pattern uint32) string {
	b := []byte(s)
	for i := range 32 {
		if pattern>>i&1 == 1 {
			b[(bit+i)/8] ^= 1 << ((bit + i) % 8)
		}
	}
	return string(b)
}

// seed is numbers that look like chance, and are the same each time.
type seed uint64

func (s *seed) next(n int) int {
	*s = *s*6364136223846793005 + 1442695040888963407
	return int(uint64(*s) >> 33 % uint64(n))
}

// text answers so many bytes.
func (s *seed) text(n int) string {
	b := make([]byte, n)
	for i := range b {
		b[i] = byte(s.next(256))
	}
	return string(b)
}

// cut answers a text in pieces, some of no bytes.
func (s *seed) cut(text string) []string {
	var l []string
	for text != "" {
		n := s.next(min(len(text), 9) + 1)
		l = append(l, text[:n])
		text = text[n:]
	}
	return l
}

// summed fails, unless the pieces have this sum.
func summed(t *testing.T, want int, l ...string) {
	t.Helper()
	if x := Of(l...); x != want {
		t.Errorf("%.20q, %d pieces: %d; not %d", l, len(l), x, want)
	}
}

// found fails, unless Next answers that text, and the place behind it.
func found(t *testing.T, what any, s string, at int, want string, behind int) {
	t.Helper()
	if text, next, e := Next(s, at); text != want || next != behind || e != api.OK {
		t.Errorf("%v, at %d: %d, %d bytes %.20q, next %d; not %d bytes, next %d", what, at, e, len(text), text, next, len(want), behind)
	}
}

// refused fails, unless Next answers this error, and nothing beside it.
func refused(t *testing.T, what any, s string, at int, want api.Errno) {
	t.Helper()
	if text, next, e := Next(s, at); text != "" || next != 0 || e != want {
		t.Errorf("%v, at %d: %d, %d bytes, next %d; not %d", what, at, e, len(text), next, want)
	}
}

// told fails, unless All answers these texts, this place and this error.
func told(t *testing.T, what any, s string, want []string, place int, wrong api.Errno) {
	t.Helper()
	if l, at, e := All(s); !slices.Equal(l, want) || at != place || e != wrong {
		t.Errorf("%v: %d at %d, %d texts; not %d at %d, %d texts", what, e, at, len(l), wrong, place, len(want))
	}
}

// lengths answers some that a frame's text may have.
func lengths() []int {
	return []int{0, 1, 2, 3, 4, 5, 7, 8, 63, 64, 65, 100, 255, 256, 257, 511, 512, 1000, 2048, 4095, 4096}
}
