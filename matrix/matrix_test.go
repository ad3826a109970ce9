package matrix

import (
	"math"
	"slices"
	"strings"
	"testing"
	"unsafe"

	"corncrib/api"
	"corncrib/gf"
)

// of answers a matrix of rows that are as long.
func of(rows ...string) api.Matrix {
	return api.Matrix{Rows: len(rows), Cols: len(rows[0]), Cells: strings.Join(rows, "")}
}

// wrong answers matrices that may not be.
func wrong() []api.Matrix {
	return []api.Matrix{
		{},
		{Rows: 0, Cols: 1},
		{Rows: 1, Cols: 0},
		{Rows: 1, Cols: 1},
		{Rows: -1, Cols: 1, Cells: "a"},
		{Rows: 1, Cols: -1, Cells: "a"},
		{Rows: -1, Cols: -1, Cells: "a"},
		{Rows: -2, Cols: -3, Cells: "abcdef"},
		{Rows: 256, Cols: 1, Cells: strings.Repeat("a", 256)},
		{Rows: 1, Cols: 256, Cells: strings.Repeat("a", 256)},
		{Rows: 256, Cols: 256, Cells: strings.Repeat("a", 256*256)},
		{Rows: 2, Cols: 2, Cells: "abc"},
		{Rows: 2, Cols: 2, Cells: "abcde"},
		{Rows: 2, Cols: 3, Cells: "abcd"},
		{Rows: 1, Cols: 2, Cells: "a"},
		{Rows: 255, Cols: 255, Cells: strings.Repeat("a", 255*255-1)},
		{Rows: 255, Cols: 255, Cells: strings.Repeat("a", 255*255+1)},
		{Rows: 1 << 32, Cols: 1 << 32}, // whose product wraps round to 0
		{Rows: 1 << 62, Cols: 4},
		{Rows: math.MinInt, Cols: 2},
		{Rows: math.MaxInt, Cols: math.MaxInt, Cells: "a"}, // whose product wraps round to 1
		{Rows: math.MinInt, Cols: math.MinInt},
	}
}

// seed is numbers that look like chance, and are the same each time.
type seed uint64

func (s *seed) next(n int) int {
	*s = *s*6364136223846793005 + 1442695040888963407
	return int(uint64(*s) >> 33 % uint64(n))
}

// some answers a matrix of such numbers.
func (s *seed) some(rows, cols int) api.Matrix {
	l := make([]byte, rows*cols)
	for i := range l {
		l[i] = byte(s.next(256))
	}
	return api.Matrix{Rows: rows, Cols: cols, Cells: string(l)}
}

// product multiplies cell by cell, straight from the words.
func product(a, b api.Matrix) api.Matrix {
	f := gf.New()
	l := make([]byte, a.Rows*b.Cols)
	for i := range a.Rows {
		for j := range b.Cols {
			for n := range a.Cols {
				l[i*b.Cols+j] ^= f.Mul(a.Cells[i*a.Cols+n], b.Cells[n*b.Cols+j])
			}
		}
	}
	return api.Matrix{Rows: a.Rows, Cols: b.Cols, Cells: string(l)}
}

// one answers the identity, straight from the words.
func one(n int) api.Matrix {
	l := make([]byte, n*n)
	for i := range n {
		l[i*n+i] = 1
	}
	return api.Matrix{Rows: n, Cols: n, Cells: string(l)}
}

// same fails, unless got is want, beside e, which is OK.
func same(t *testing.T, what string, got api.Matrix, e api.Errno, want api.Matrix) {
	t.Helper()
	if e != api.OK || got != want {
		t.Errorf("%s: %d, %d x %d %x; not %d x %d %x", what, e, got.Rows, got.Cols, head(got), want.Rows, want.Cols, head(want))
	}
}

// refused fails, unless e is want, and nothing stands beside it.
func refused(t *testing.T, what any, got api.Matrix, e, want api.Errno) {
	t.Helper()
	if e != want || got != (api.Matrix{}) {
		t.Errorf("%v: %d, %d x %d %x; not %d", what, e, got.Rows, got.Cols, head(got), want)
	}
}

// head answers the first few cells.
func head(m api.Matrix) string { return m.Cells[:min(len(m.Cells), 24)] }

// Promise 2.1: sides from 1 to api.MaxSide, and just as many cells.
func TestCheck(t *testing.T) {
	for _, s := range [][2]int{{1, 1}, {1, 2}, {2, 1}, {3, 4}, {1, 255}, {255, 1}, {255, 255}} {
		if e := Check(api.Matrix{Rows: s[0], Cols: s[1], Cells: strings.Repeat("\x00", s[0]*s[1])}); e != api.OK {
			t.Errorf("%d x %d: %d", s[0], s[1], e)
		}
	}
	if e := Check(api.Matrix{Rows: 1, Cols: 2, Cells: "\xc3\xa9"}); e != api.OK {
		t.Errorf("bytes that are one rune: %d", e)
	}
	for i, m := range wrong() {
		if e := Check(m); e != api.ErrShape {
			t.Errorf("wrong %d: %d", i, e)
		}
	}
}

// Promise 2.1: 1 where row and column are the same, else 0.
func TestIdentity(t *testing.T) {
	m, e := Identity(3)
	same(t, "of 3", m, e, of("\x01\x00\x00", "\x00\x01\x00", "\x00\x00\x01"))
	for _, n := range []int{1, 2, 7, 254, 255} {
		m, e := Identity(n)
		same(t, "identity", m, e, one(n))
	}
	for _, n := range []int{0, -1, 256, 257, 1 << 32, math.MaxInt, math.MinInt} {
		m, e := Identity(n)
		refused(t, n, m, e, api.ErrRange)
	}
}

// Promise 2.1: products that were worked out by hand.
func TestMulWorkedOut(t *testing.T) {
	for _, x := range []struct {
		name       string
		a, b, want api.Matrix
	}{
		{"one cell", of("\x02"), of("\x80"), of("\x1d")},
		{"a row and a column", of("\x02\x01"), of("\x80", "\x05"), of("\x18")},
		{"a column and a row", of("\x02", "\x01"), of("\x80\x05"), of("\x1d\x0a", "\x80\x05")},
		{"two square", of("\x01\x02", "\x00\x01"), of("\x01\x00", "\x03\x01"), of("\x07\x02", "\x03\x01")},
		{"the same, turned round", of("\x01\x00", "\x03\x01"), of("\x01\x02", "\x00\x01"), of("\x01\x02", "\x03\x07")},
		{"rows that change places", of("\x00\x01", "\x01\x00"), of("\x05\x06\x07", "\x08\x09\x0a"), of("\x08\x09\x0a", "\x05\x06\x07")},
		{"nothing", of("\x00\x00"), of("\xff\x01", "\x02\x03"), of("\x00\x00")},
	} {
		m, e := Mul(x.a, x.b)
		same(t, x.name, m, e, x.want)
	}
}

// Promise 2.1: products of all kinds of sides, those of 1 and of api.MaxSide, too.
func TestMulSides(t *testing.T) {
	s := seed(1)
	for _, x := range [][3]int{{1, 1, 1}, {1, 255, 1}, {255, 1, 255}, {255, 255, 1}, {1, 255, 255}, {2, 3, 4}, {5, 1, 2}, {17, 31, 9}, {255, 255, 255}} {
		a, b := s.some(x[0], x[1]), s.some(x[1], x[2])
		m, e := Mul(a, b)
		same(t, "product", m, e, product(a, b))
	}
}

// Promise 2.1: what may not be, in the first place or the second, and what does not fit.
func TestMulRefuses(t *testing.T) {
	for i, w := range wrong() {
		m, e := Mul(w, one(2))
		refused(t, i, m, e, api.ErrShape)
		m, e = Mul(one(2), w)
		refused(t, i, m, e, api.ErrShape)
		m, e = Mul(w, w)
		refused(t, i, m, e, api.ErrShape)
	}
	for _, x := range [][2]api.Matrix{
		{of("ab"), of("ab")},
		{of("a", "b"), of("a", "b")},
		{of("ab", "cd"), of("abc", "def", "ghi")},
		{of("abc", "def", "ghi"), of("ab", "cd")},
		{of("a"), of("a", "b")},
		{of("ab"), of("a")},
	} {
		m, e := Mul(x[0], x[1])
		refused(t, x, m, e, api.ErrShape)
	}
}

// Promise 2.2: inverses that were worked out by hand.
func TestInverseWorkedOut(t *testing.T) {
	for _, x := range []struct {
		name    string
		m, want api.Matrix
	}{
		{"one cell", of("\x02"), of("\x8e")},
		{"the identity", of("\x01\x00", "\x00\x01"), of("\x01\x00", "\x00\x01")},
		{"rows that change places", of("\x00\x01", "\x01\x00"), of("\x00\x01", "\x01\x00")},
		{"rows that go round", of("\x00\x01\x00", "\x00\x00\x01", "\x01\x00\x00"), of("\x00\x00\x01", "\x01\x00\x00", "\x00\x01\x00")},
		{"scaled rows", of("\x02\x00", "\x00\x03"), of("\x8e\x00", "\x00\xf4")},
		{"a row above", of("\x01\x05", "\x00\x01"), of("\x01\x05", "\x00\x01")},
		{"of a generator", of("\x00\x01", "\x8e\xf4"), of("\xf5\x02", "\x01\x00")},
	} {
		m, e := Inverse(x.m)
		same(t, x.name, m, e, x.want)
	}
}

// Promise 2.2: of two rows there is an inverse just if the products across are unlike; and what it is then.
func TestInverseOfTwoRows(t *testing.T) {
	f := gf.New()
	some := []byte{0, 1, 2, 3, 29, 127, 128, 142, 255}
	for _, a := range some {
		for _, b := range some {
			for _, c := range some {
				for _, d := range some {
					m, e := Inverse(of(string([]byte{a, b}), string([]byte{c, d})))
					i, none := f.Inv(f.Mul(a, d) ^ f.Mul(b, c))
					if none != api.OK {
						refused(t, []byte{a, b, c, d}, m, e, api.ErrSingle)
						continue
					}
					same(t, "inverse", m, e, of(f.Scale(i, string([]byte{d, b})), f.Scale(i, string([]byte{c, a}))))
				}
			}
		}
	}
}

// Promise 2.2: of three rows, likewise.
func TestInverseOfThreeRows(t *testing.T) {
	f := gf.New()
	for n := range 19683 {
		c := make([]byte, 9)
		for i := range c {
			c[i] = byte(n % 3)
			n /= 3
		}
		across := func(a, b, d, e int) byte { return f.Mul(c[a], c[e]) ^ f.Mul(c[b], c[d]) }
		det := f.Mul(c[0], across(4, 5, 7, 8)) ^ f.Mul(c[1], across(3, 5, 6, 8)) ^ f.Mul(c[2], across(3, 4, 6, 7))
		m := api.Matrix{Rows: 3, Cols: 3, Cells: string(c)}
		i, e := Inverse(m)
		if det == 0 {
			refused(t, c, i, e, api.ErrSingle)
			continue
		}
		if e != api.OK || product(m, i) != one(3) || product(i, m) != one(3) {
			t.Errorf("%x: %d, %x", c, e, i.Cells)
		}
	}
}

// Promise 2.2: matrices without an inverse, in which that shows early or late.
func TestInverseSingle(t *testing.T) {
	s := seed(2)
	big := []byte(one(255).Cells)
	clear(big[254*255:])
	sum := s.some(40, 40)
	last := make([]byte, 40) // the last row is the sum of all others
	for i := range 39 * 40 {
		last[i%40] ^= sum.Cells[i]
	}
	sum.Cells = sum.Cells[:39*40] + string(last)
	for i, m := range []api.Matrix{
		of("\x00"),
		of("\x00\x00", "\x00\x00"),
		of("\x01\x02", "\x01\x02"),
		of("\x01\x02", "\x02\x04"),
		of("\x00\x01", "\x00\x02"),
		of("\x00\x00", "\x01\x01"),
		of("\x01\x02\x03", "\x04\x05\x06", "\x05\x07\x05"),
		{Rows: 255, Cols: 255, Cells: string(big)},
		{Rows: 255, Cols: 255, Cells: strings.Repeat("\x01", 255*255)},
		sum,
	} {
		r, e := Inverse(m)
		refused(t, i, r, e, api.ErrSingle)
	}
}

// Promise 2.2: what may not be, and what is not square, without an inverse or not.
func TestInverseRefuses(t *testing.T) {
	for i, w := range wrong() {
		m, e := Inverse(w)
		refused(t, i, m, e, api.ErrShape)
	}
	for i, m := range []api.Matrix{of("ab"), of("a", "b"), of("\x00\x00\x00", "\x00\x00\x00"), {Rows: 255, Cols: 1, Cells: strings.Repeat("a", 255)}, {Rows: 254, Cols: 255, Cells: strings.Repeat("a", 254*255)}} {
		r, e := Inverse(m)
		refused(t, i, r, e, api.ErrShape)
	}
}

// Promise 2.2: rows, in the order in which they are asked for, as often as they are.
func TestPick(t *testing.T) {
	m := of("abc", "def", "ghi", "jkl")
	for _, x := range []struct {
		rows []int
		want api.Matrix
	}{
		{[]int{0}, of("abc")},
		{[]int{3}, of("jkl")},
		{[]int{0, 1, 2, 3}, m},
		{[]int{3, 1}, of("jkl", "def")},
		{[]int{2, 2}, of("ghi", "ghi")},
		{[]int{1, 0, 1, 3, 1}, of("def", "abc", "def", "jkl", "def")},
	} {
		r, e := Pick(m, x.rows...)
		same(t, "rows", r, e, x.want)
	}
	r, e := Pick(of("\xc3\xa9", "\xff\x00"), 1, 0)
	same(t, "bytes of any kind", r, e, of("\xff\x00", "\xc3\xa9"))
}

// Promise 2.2: as many rows as api.MaxSide, of a matrix of any sides.
func TestPickMany(t *testing.T) {
	r, e := Pick(of("ab"), make([]int, 255)...)
	same(t, "one row 255 times", r, e, api.Matrix{Rows: 255, Cols: 2, Cells: strings.Repeat("ab", 255)})
	s := seed(3)
	m := s.some(255, 255)
	back := make([]int, 255)
	want := ""
	for i := range back {
		back[i] = 254 - i
		want += m.Cells[(254-i)*255 : (255-i)*255]
	}
	r, e = Pick(m, back...)
	same(t, "all, from the last on", r, e, api.Matrix{Rows: 255, Cols: 255, Cells: want})
}

// Promise 2.2: what is wrong, the first of it first: the matrix, a row that there is not, too many rows, none.
func TestPickRefuses(t *testing.T) {
	for i, w := range wrong() {
		for _, rows := range [][]int{{0}, {}, {-1}, make([]int, 256)} {
			m, e := Pick(w, rows...)
			refused(t, i, m, e, api.ErrShape)
		}
	}
	m := of("abc", "def")
	many := make([]int, 256)
	off := slices.Clone(many)
	off[255] = 2
	for _, x := range []struct {
		rows []int
		want api.Errno
	}{
		{[]int{2}, api.ErrRange},
		{[]int{-1}, api.ErrRange},
		{[]int{0, 1, 2}, api.ErrRange},
		{[]int{0, -1, 1}, api.ErrRange},
		{[]int{math.MaxInt}, api.ErrRange},
		{[]int{math.MinInt}, api.ErrRange},
		{[]int{1 << 62}, api.ErrRange},
		{[]int{1 << 32}, api.ErrRange},
		{off, api.ErrRange},
		{many, api.ErrLong},
		{make([]int, 1<<16), api.ErrLong},
		{nil, api.ErrRange},
		{[]int{}, api.ErrRange},
	} {
		r, e := Pick(m, x.rows...)
		refused(t, len(x.rows), r, e, x.want)
	}
	r, e := Pick(m)
	refused(t, "none", r, e, api.ErrRange)
}

// Promise 2.3: generators that were worked out by hand: the example of the chapter, those of one column, those with m = 0.
func TestGeneratorWorkedOut(t *testing.T) {
	for _, x := range []struct {
		k, m int
		want api.Matrix
	}{
		{2, 1, of("\x01\x00", "\x00\x01", "\x8e\xf4")},
		{1, 0, of("\x01")},
		{1, 1, of("\x01", "\x01")},
		{1, 3, of("\x01", "\x01", "\x8e", "\xf4")},
		{2, 2, of("\x01\x00", "\x00\x01", "\x8e\xf4", "\xf4\x8e")},
		{3, 0, of("\x01\x00\x00", "\x00\x01\x00", "\x00\x00\x01")},
	} {
		g, e := Generator(x.k, x.m)
		same(t, "generator", g, e, x.want)
	}
}

// Promise 2.3: of every k and m that may be near the edges: the identity, and rows whose cells, times (k + i) xor j, are 1.
func TestGenerator(t *testing.T) {
	f := gf.New()
	for _, x := range [][2]int{{1, 0}, {1, 1}, {1, 254}, {2, 253}, {3, 5}, {4, 8}, {10, 20}, {64, 64}, {127, 128}, {128, 127}, {253, 2}, {254, 0}, {254, 1}, {255, 0}} {
		k, m := x[0], x[1]
		g, e := Generator(k, m)
		if e != api.OK || g.Rows != k+m || g.Cols != k || len(g.Cells) != (k+m)*k {
			t.Fatalf("%d, %d: %d, %d x %d of %d", k, m, e, g.Rows, g.Cols, len(g.Cells))
		}
		if g.Cells[:k*k] != one(k).Cells {
			t.Errorf("%d, %d: no identity", k, m)
		}
		for i := range m {
			for j := range k {
				if f.Mul(g.Cells[(k+i)*k+j], byte((k+i)^j)) != 1 {
					t.Fatalf("%d, %d: row %d, column %d: %d", k, m, k+i, j, g.Cells[(k+i)*k+j])
				}
			}
		}
	}
}

// Promise 2.3: what is no k, or no m beside it.
func TestGeneratorRefuses(t *testing.T) {
	for _, x := range [][2]int{
		{0, 0}, {0, 1}, {0, 255}, {-1, 0}, {-1, 256}, {256, 0}, {256, -1}, {257, -2}, {1, -1}, {255, -1},
		{1, 255}, {2, 254}, {128, 128}, {254, 2}, {255, 1},
		{math.MaxInt, 0}, {math.MinInt, 0}, {1, math.MaxInt}, {1, math.MinInt}, {255, math.MaxInt}, {255, math.MinInt}, {math.MaxInt, math.MaxInt}, {math.MinInt, math.MaxInt}, {math.MinInt, math.MinInt},
	} {
		m, e := Generator(x[0], x[1])
		refused(t, x, m, e, api.ErrRange)
	}
}

// R4: the rows that are picked, and what lies behind them, stay.
func TestPickKeepsItsRows(t *testing.T) {
	all := []int{1, 0, 7, 9}
	if r, e := Pick(of("ab", "cd"), all[:2]...); e != api.OK || r.Cells != "cdab" {
		t.Errorf("%d, %q", e, r.Cells)
	}
	if !slices.Equal(all, []int{1, 0, 7, 9}) {
		t.Errorf("changed: %v", all)
	}
	all[0] = 0
	r, _ := Pick(of("ab", "cd"), all[:2]...)
	all[0] = 1
	if r.Cells != "abab" {
		t.Errorf("kept: %q", r.Cells)
	}
}

// R4: matrices that are handed in stay, and no answer shares their memory.
func TestAnswersAreNew(t *testing.T) {
	s := seed(4)
	a := s.some(8, 8)
	kept := strings.Clone(a.Cells)
	id := one(8)
	var l []api.Matrix
	for _, call := range []func() (api.Matrix, api.Errno){
		func() (api.Matrix, api.Errno) { return Mul(a, id) },
		func() (api.Matrix, api.Errno) { return Mul(id, a) },
		func() (api.Matrix, api.Errno) { return Inverse(id) },
		func() (api.Matrix, api.Errno) { return Inverse(a) },
		func() (api.Matrix, api.Errno) { return Pick(a, 0, 1, 2, 3, 4, 5, 6, 7) },
		func() (api.Matrix, api.Errno) { return Pick(a, 0) },
		func() (api.Matrix, api.Errno) { return Identity(8) },
		func() (api.Matrix, api.Errno) { return Generator(8, 0) },
	} {
		for range 2 {
			m, e := call()
			if e != api.OK {
				t.Fatal(e)
			}
			l = append(l, m)
		}
	}
	if a.Cells != kept || id != one(8) {
		t.Error("changed")
	}
	for i, m := range l {
		for j, n := range append(l[:i:i], a, id) {
			if shares(m.Cells, n.Cells) {
				t.Errorf("answer %d shares its memory with %d", i, j)
			}
		}
	}
}

// shares tells whether two texts lie, in part, in the same memory.
func shares(a, b string) bool {
	x, y := uintptr(unsafe.Pointer(unsafe.StringData(a))), uintptr(unsafe.Pointer(unsafe.StringData(b)))
	return x < y+uintptr(len(b)) && y < x+uintptr(len(a))
}

// R7: the same call tells the same.
func TestSameCallSameAnswer(t *testing.T) {
	s := seed(5)
	a, b := s.some(6, 6), s.some(6, 6)
	first, e := Mul(a, b)
	i, f := Inverse(a)
	Inverse(one(9))
	Inverse(of("\x00"))
	Generator(3, 3)
	again, g := Mul(a, b)
	j, h := Inverse(a)
	if first != again || e != g || i != j || f != h {
		t.Error("another answer")
	}
}
