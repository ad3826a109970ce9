package stripe

import (
	"slices"
	"strings"
	"testing"
	"unsafe"

	"corncrib/api"
	"corncrib/matrix"
)

// Promise 3.4: what is split is joined again, of each k.
func TestSplitJoins(t *testing.T) {
	s := seed(4)
	for k := 1; k <= 255; k++ {
		for _, n := range lengths() {
			object := s.text(n)
			l, e := Split(k, object)
			if e != api.OK {
				t.Fatalf("%d, %d: %d", k, n, e)
			}
			joined(t, []int{k, n}, object, l...)
		}
	}
}

// Promise 3.4: so are objects of bytes 0 alone, whose bytes can't be told from those behind them, and of all lengths.
func TestSplitJoinsZeros(t *testing.T) {
	for n := range 2049 {
		for _, k := range []int{1, 2, 3, 12, 255} {
			object := strings.Repeat("\x00", n)
			l, _ := Split(k, object)
			joined(t, []int{k, n}, object, l...)
		}
	}
}

// Promise 3.4: and the first k of what is encoded, beside which the rest is their parity.
func TestEncodeJoins(t *testing.T) {
	s := seed(5)
	for _, x := range codes() {
		for _, n := range lengths() {
			k, m := x[0], x[1]
			object := s.text(n)
			l, e := Encode(k, m, object)
			if e != api.OK || len(l) != k+m {
				t.Fatalf("%v, %d: %d, %d shards", x, n, e, len(l))
			}
			joined(t, x, object, l[:k]...)
			data, e := Split(k, object)
			same(t, x, l[:k], e, data)
			rest, e := Parity(k, m, data)
			same(t, x, l[k:], e, rest)
		}
	}
}

// sum answers the sum of two lists of shards, byte by byte.
func sum(a, b []string) []string {
	l := make([]string, len(a))
	for i := range l {
		c := []byte(a[i])
		for at := range c {
			c[at] ^= b[i][at]
		}
		l[i] = string(c)
	}
	return l
}

// Promise 3.4: a sum of two lists of data shards has the sums of their parity.
func TestSumsOfParity(t *testing.T) {
	s := seed(6)
	for _, x := range codes() {
		for _, n := range []int{0, 1, 5, 64, 300} {
			k, m := x[0], x[1]
			a, b := s.texts(k, n), s.texts(k, n)
			of := func(data []string) []string {
				l, e := Parity(k, m, data)
				if e != api.OK || len(l) != m {
					t.Fatalf("%v, %d: %d, %d shards", x, n, e, len(l))
				}
				return l
			}
			same(t, x, of(sum(a, b)), api.OK, sum(of(a), of(b)))
			same(t, x, of(sum(a, a)), api.OK, sum(of(a), of(a)))
		}
	}
}

// Promise 3.3, chapter 3's first words: any k of the shards are enough, by the inverse of their rows.
func TestAnyShardsAreEnough(t *testing.T) {
	const k, m = 2, 3
	object := "a corncrake calls"
	l, _ := Encode(k, m, object)
	g, _ := matrix.Generator(k, m)
	for a := range k + m {
		for b := range k + m {
			if a == b {
				continue
			}
			rows, _ := matrix.Pick(g, a, b)
			back, e := matrix.Inverse(rows)
			if e != api.OK {
				t.Fatalf("%d, %d: %d", a, b, e)
			}
			data, e := matrix.Mul(back, api.Matrix{Rows: k, Cols: len(l[0]), Cells: l[a] + l[b]})
			if e != api.OK {
				t.Fatalf("%d, %d: %d", a, b, e)
			}
			joined(t, []int{a, b}, object, data.Cells[:data.Cols], data.Cells[data.Cols:])
		}
	}
}

// R4: the shards that are handed in stay, and what lies behind them; a call afterwards does not hang on them.
func TestShardsStay(t *testing.T) {
	all := []string{"\x00\x00\x00\x03", "abc\x00", "behind", "it"}
	kept := slices.Clone(all)
	joined(t, "two", "abc", all[:2]...)
	l, e := Parity(2, 1, all[:2])
	same(t, "parity", l, e, []string{"\xd4\xd5\x21\x8f"})
	Parity(2, 0, all[:2])
	Parity(1, 1, all[:2])
	Join(all...)
	if !slices.Equal(all, kept) {
		t.Errorf("changed: %q", all)
	}
	all[1] = "xyz\x00"
	same(t, "parity", l, e, []string{"\xd4\xd5\x21\x8f"})
	joined(t, "two others", "xyz", all[:2]...)
}

// R4: no answer shares its memory with what was handed in, with another answer, or within itself.
func TestAnswersAreNew(t *testing.T) {
	s := seed(7)
	object := s.text(40)
	plain := "\x00\x00\x00\x28" + object
	data := pieces(4, object)
	given := append([]string{object, plain}, data...)
	kept := slices.Clone(given)
	var l []string
	for range 2 {
		for _, k := range []int{1, 2, 4} {
			a, _ := Split(k, object)
			b, _ := Encode(k, 2, object)
			l = append(append(l, a...), b...)
		}
		a, _ := Parity(4, 3, data)
		b, _ := Parity(1, 2, []string{plain})
		c, _ := Join(plain)
		d, _ := Join(data...)
		l = append(append(append(l, a...), b...), c, d)
	}
	if !slices.Equal(given, kept) {
		t.Error("changed")
	}
	for i, a := range l {
		for j, b := range append(l[:i:i], given...) {
			if shares(a, b) {
				t.Errorf("answer %d shares its memory with %d", i, j)
			}
		}
	}
}

// R4: lists that are answered are new, spare room too.
func TestListsAreNew(t *testing.T) {
	data := []string{"ab", "cd", "behind"}[:2]
	for i, call := range []func() []string{
		func() []string { l, _ := Split(3, "abc"); return l },
		func() []string { l, _ := Encode(3, 0, "abc"); return l },
		func() []string { l, _ := Encode(3, 4, "abc"); return l },
		func() []string { l, _ := Parity(2, 3, data); return l },
	} {
		want := slices.Clone(call())
		for range 2 {
			l := call()
			l = l[:cap(l)]
			for j := range l {
				l[j] = "other"
			}
		}
		same(t, i, call(), api.OK, want)
	}
	if !slices.Equal(data[:3], []string{"ab", "cd", "behind"}) {
		t.Errorf("changed: %q", data[:3])
	}
}

// shares tells whether two texts lie, in part, in the same memory.
func shares(a, b string) bool {
	x, y := uintptr(unsafe.Pointer(unsafe.StringData(a))), uintptr(unsafe.Pointer(unsafe.StringData(b)))
	return x < y+uintptr(len(b)) && y < x+uintptr(len(a))
}

// R7: the same call tells the same, whatever was asked between.
func TestSameCallSameAnswer(t *testing.T) {
	s := seed(8)
	object := s.text(99)
	first, e := Encode(5, 4, object)
	Encode(0, 0, object)
	Encode(4, 5, "")
	Parity(2, 2, []string{"a", ""})
	Join("\x00")
	Size(-1, -1)
	again, f := Encode(5, 4, object)
	same(t, "again", again, f, first)
	if e != f {
		t.Errorf("%d, and %d", e, f)
	}
	one, _ := Join(first[:5]...)
	two, _ := Join(first[:5]...)
	if one != two || one != object {
		t.Error("another object")
	}
}
