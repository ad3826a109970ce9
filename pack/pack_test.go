package pack

import (
	"math"
	"slices"
	"strings"
	"testing"

	"corncrib/api"
)

// Promises 6.1, 6.2: the chapter's example.
func TestExample(t *testing.T) {
	written(t, api.Pack{Nums: []int{1, -1, 300}, Texts: []string{"ab"}}, string([]byte{3, 2, 1, 216, 4, 1, 2, 97, 98}))
}

// Promises 6.1, 6.2: packs that are worked out.
func TestKnownPacks(t *testing.T) {
	written(t, api.Pack{}, "\x00\x00")
	written(t, api.Pack{Nums: []int{}, Texts: []string{}}, "\x00\x00")
	written(t, api.Pack{Nums: []int{0}}, "\x01\x00\x00")
	written(t, api.Pack{Nums: []int{-2, 2, -3, 3}}, "\x04\x03\x04\x05\x06\x00")
	written(t, api.Pack{Texts: []string{""}}, "\x00\x01\x00")
	written(t, api.Pack{Texts: []string{"a", "", "bc"}}, "\x00\x03\x01a\x00\x02bc")
	written(t, api.Pack{Nums: []int{-65}, Texts: []string{"\x00\x80"}}, "\x01\x81\x01\x01\x02\x00\x80")
	long := strings.Repeat("x", 300)
	written(t, api.Pack{Nums: []int{64}, Texts: []string{long}}, "\x01\x80\x01\x01\xac\x02"+long)
}

// numbers answers some numbers and their bytes, worked out, at each edge at which these get longer.
func numbers() map[int]string {
	ff := func(n int) string { return strings.Repeat("\xff", n) }
	none := func(n int) string { return strings.Repeat("\x80", n) }
	return map[int]string{
		0: "\x00", -1: "\x01", 1: "\x02", -2: "\x03", 2: "\x04",
		63: "\x7e", -64: "\x7f", 64: "\x80\x01", -65: "\x81\x01",
		300: "\xd8\x04", -300: "\xd7\x04",
		8191: "\xfe\x7f", -8192: "\xff\x7f", 8192: "\x80\x80\x01", -8193: "\x81\x80\x01",
		1<<48 - 1: "\xfe" + ff(5) + "\x7f", -1 << 48: ff(6) + "\x7f",
		1 << 48: none(7) + "\x01", -1<<48 - 1: "\x81" + none(6) + "\x01",
		1<<55 - 1: "\xfe" + ff(6) + "\x7f", -1 << 55: ff(7) + "\x7f",
		1 << 55: none(8) + "\x01", -1<<55 - 1: "\x81" + none(7) + "\x01",
		1<<61 - 1: "\xfe" + ff(7) + "\x3f", -1 << 61: ff(8) + "\x3f",
		highest - 1: "\xfc" + ff(7) + "\x7f", lowest + 1: "\xfd" + ff(7) + "\x7f",
		highest: "\xfe" + ff(7) + "\x7f", lowest: ff(8) + "\x7f",
	}
}

// Promises 6.1, 6.2: numbers whose bytes are worked out, one by one, and as a pack's.
func TestKnownNumbers(t *testing.T) {
	var lengths []int
	for n, want := range numbers() {
		if s, e := Number(n); s != want || e != api.OK {
			t.Errorf("%d: %d, %x; not %x", n, e, s, want)
		}
		written(t, api.Pack{Nums: []int{n}}, "\x01"+want+"\x00")
		written(t, api.Pack{Nums: []int{n, n}, Texts: []string{"x"}}, "\x02"+want+want+"\x01\x01x")
		lengths = append(lengths, len(want))
	}
	slices.Sort(lengths)
	if l := slices.Compact(lengths); !slices.Equal(l, []int{1, 2, 3, 7, 8, 9}) {
		t.Error(l)
	}
}

// Promise 6.1: each number of a pack, by its bits.
func TestNumbers(t *testing.T) {
	m := newMaker(2)
	try := func(n int) {
		if n < lowest || n > highest {
			return
		}
		if s, e := Number(n); s != signed(n) || e != api.OK {
			t.Errorf("%d: %d, %x; not %x", n, e, s, signed(n))
		}
		written(t, api.Pack{Nums: []int{n}}, "\x01"+signed(n)+"\x00")
	}
	for n := range 70000 {
		try(n - 35000)
	}
	for bit := range 63 {
		for off := -3; off <= 3; off++ {
			try(1<<bit + off)
			try(-1<<bit + off)
		}
	}
	for range 20000 {
		try(m.number())
	}
}

// Promise 6.1: a number that is none of a pack's, alone and among others.
func TestNoNumber(t *testing.T) {
	for _, n := range []int{highest + 1, highest + 2, lowest - 1, lowest - 2, math.MaxInt, math.MaxInt - 1, math.MinInt, math.MinInt + 1, 1<<62 + 1<<61, -1<<62 - 1<<61} {
		if s, e := Number(n); s != "" || e != api.ErrRange {
			t.Errorf("%d: %d, %x", n, e, s)
		}
		unwritten(t, api.Pack{Nums: []int{n}}, api.ErrRange)
		unwritten(t, api.Pack{Nums: []int{1, 2, n}, Texts: []string{"a"}}, api.ErrRange)
		unwritten(t, api.Pack{Nums: []int{n, 1, 2}}, api.ErrRange)
	}
}

// Promises 6.1, 6.2: as many numbers, and as many texts, as may be.
func TestMostItems(t *testing.T) {
	m := newMaker(3)
	for _, n := range []int{1, 2, 127, 128, 129, 1023, 1024} {
		for _, p := range []api.Pack{m.pack(n, 0), m.pack(0, n), m.pack(n, n), {Nums: make([]int, n), Texts: make([]string, n)}} {
			written(t, p, hand(p))
		}
	}
	written(t, api.Pack{Nums: make([]int, 1024)}, "\x80\x08"+strings.Repeat("\x00", 1024)+"\x00")
	written(t, api.Pack{Texts: make([]string, 1024)}, "\x00\x80\x08"+strings.Repeat("\x00", 1024))
}

// Promise 6.1: one more is too many.
func TestTooManyItems(t *testing.T) {
	for _, n := range []int{1025, 1026, 2048, 100000} {
		unwritten(t, api.Pack{Nums: make([]int, n)}, api.ErrLong)
		unwritten(t, api.Pack{Texts: make([]string, n)}, api.ErrLong)
		unwritten(t, api.Pack{Nums: make([]int, 1024), Texts: make([]string, n)}, api.ErrLong)
		unwritten(t, api.Pack{Nums: make([]int, n), Texts: make([]string, n)}, api.ErrLong)
	}
}

// Promises 6.1, 6.2: texts of no bytes, of 4096 bytes, and those at which the length gets longer.
func TestTexts(t *testing.T) {
	m := newMaker(4)
	for _, n := range []int{0, 1, 2, 126, 127, 128, 129, 255, 256, 2047, 2048, 4095, 4096} {
		text := m.text(n)
		for _, p := range []api.Pack{{Texts: []string{text}}, {Nums: []int{n, -n}, Texts: []string{"", text, text, "a"}}} {
			written(t, p, hand(p))
		}
	}
	long := strings.Repeat("\x80", 4096)
	written(t, api.Pack{Texts: []string{long, "", long}}, "\x00\x03\x80\x20"+long+"\x00\x80\x20"+long)
	l := make([]string, 1024)
	for i := range l {
		l[i] = long
	}
	written(t, api.Pack{Texts: l}, hand(api.Pack{Texts: l}))
}

// Promise 6.1: a text of one more byte is too long, wherever it stands.
func TestTooLongText(t *testing.T) {
	for _, n := range []int{4097, 4098, 8192, 1 << 16, 1 << 20} {
		long := strings.Repeat("x", n)
		unwritten(t, api.Pack{Texts: []string{long}}, api.ErrLong)
		unwritten(t, api.Pack{Nums: []int{5}, Texts: []string{"a", "", long}}, api.ErrLong)
		unwritten(t, api.Pack{Texts: []string{long, "a"}}, api.ErrLong)
	}
}

// Promise 6.1, R1: of several errors that one which is named first.
func TestFirstError(t *testing.T) {
	bad, long := []int{1, highest + 1}, []string{"a", strings.Repeat("x", 4097)}
	unwritten(t, api.Pack{Nums: bad, Texts: make([]string, 1025)}, api.ErrLong)
	unwritten(t, api.Pack{Nums: bad, Texts: long}, api.ErrRange)
	many := make([]int, 1025)
	many[0] = lowest - 1
	unwritten(t, api.Pack{Nums: many}, api.ErrLong)
	unwritten(t, api.Pack{Nums: many, Texts: long}, api.ErrLong)
}
