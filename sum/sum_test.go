package sum

import (
	"hash/crc32"
	"strings"
	"testing"
)

// Promise 5.1: sums that are known, that of the chapter's example among them.
func TestKnownSums(t *testing.T) {
	for text, want := range map[string]int{
		"":                 0,
		"123456789":        3421780262,
		"a":                3904355907,
		"abc":              891568578,
		"\x00":             3523407757,
		"\xff":             4278190080,
		"\x00\x00":         1104745215,
		"\x00\x00\x00\x00": 558161692,
		"\xff\xff\xff\xff": 4294967295,
		"The quick brown fox jumps over the lazy dog": 1095738169,
	} {
		summed(t, want, text)
	}
}

// Promise 5.1: no piece, and pieces of no bytes, have the sum of nothing.
func TestSumOfNothing(t *testing.T) {
	summed(t, 0)
	summed(t, 0, []string{}...)
	summed(t, 0, "", "")
	summed(t, 0, make([]string, 1000)...)
}

// Promise 5.1: each single byte's sum is as the words say, and so are those of two.
func TestShortSums(t *testing.T) {
	for a := range 256 {
		one := string([]byte{byte(a)})
		summed(t, byWords(one), one)
		for b := range 256 {
			two := string([]byte{byte(b)})
			summed(t, byWords(one+two), one, two)
		}
	}
}

// Promise 5.1: texts of all kinds of lengths; the library reckons the same.
func TestLongSums(t *testing.T) {
	s := seed(1)
	for n := 0; n < 1<<17; n += 1 + n/3 {
		for _, text := range []string{s.text(n), strings.Repeat("\x00", n), strings.Repeat("\xff", n)} {
			summed(t, byWords(text), text)
			summed(t, int(crc32.ChecksumIEEE([]byte(text))), text)
		}
	}
}

// Promise 5.1: pieces have the sum of the one text that they are, cut anywhere.
func TestPieces(t *testing.T) {
	text := "123456789"
	for i := range len(text) + 1 {
		for j := i; j <= len(text); j++ {
			summed(t, 3421780262, text[:i], text[i:j], text[j:])
			summed(t, 3421780262, "", text[:i], "", text[i:j], "", text[j:], "")
		}
	}
	summed(t, 3421780262, strings.Split(text, "")...)
	s := seed(2)
	for n := range 300 {
		text := s.text(n)
		summed(t, byWords(text), s.cut(text)...)
	}
	long := s.text(1 << 16)
	summed(t, byWords(long), s.cut(long)...)
}

// Promise 5.1: the order of pieces counts, and so do bytes 0 ahead and behind.
func TestOtherTexts(t *testing.T) {
	if Of("ab", "c") == Of("c", "ab") || Of("a", "b") == Of("b", "a") {
		t.Error("the order does not count")
	}
	if Of("\x00", "abc") == Of("abc") || Of("abc", "\x00") == Of("abc") {
		t.Error("bytes 0 do not count")
	}
}

// Promise 5.1: a sum is from 0 to 2^32 - 1; great ones are not below 0.
func TestSumsRange(t *testing.T) {
	s := seed(3)
	great := 0
	for n := range 500 {
		x := Of(s.text(n))
		if x < 0 || x > 4294967295 {
			t.Errorf("%d bytes: %d", n, x)
		}
		if x > 1<<31 {
			great++
		}
	}
	if great < 100 {
		t.Errorf("%d great ones", great)
	}
}
