package matrix

import (
	"testing"

	"corncrib/api"
)

// mul answers a product that must be there.
func mul(t *testing.T, a, b api.Matrix) api.Matrix {
	t.Helper()
	m, e := Mul(a, b)
	if e != api.OK {
		t.Fatalf("%d x %d, %d x %d: %d", a.Rows, a.Cols, b.Rows, b.Cols, e)
	}
	return m
}

// undone fails, unless m has an inverse that makes it the identity, from both sides; it answers that.
func undone(t *testing.T, what any, m api.Matrix) api.Matrix {
	t.Helper()
	i, e := Inverse(m)
	if e != api.OK {
		t.Fatalf("%v: %d", what, e)
	}
	if id := one(m.Rows); mul(t, m, i) != id || mul(t, i, m) != id {
		t.Fatalf("%v: no identity", what)
	}
	return i
}

// Promise 2.4: products do not hang on which are taken first.
func TestProductsAnyFirst(t *testing.T) {
	s := seed(6)
	for _, x := range [][4]int{{1, 1, 1, 1}, {1, 2, 3, 4}, {4, 3, 2, 1}, {5, 5, 5, 5}, {1, 255, 1, 255}, {255, 1, 255, 1}, {20, 7, 31, 12}, {64, 64, 64, 64}} {
		for range 4 {
			a, b, c := s.some(x[0], x[1]), s.some(x[1], x[2]), s.some(x[2], x[3])
			if mul(t, mul(t, a, b), c) != mul(t, a, mul(t, b, c)) {
				t.Errorf("%v: another product", x)
			}
		}
	}
}

// Promise 2.4: the identity changes nothing, from either side.
func TestIdentityChangesNothing(t *testing.T) {
	s := seed(7)
	for _, x := range [][2]int{{1, 1}, {1, 255}, {255, 1}, {3, 8}, {255, 255}} {
		m := s.some(x[0], x[1])
		ahead, _ := Identity(x[0])
		behind, _ := Identity(x[1])
		if mul(t, ahead, m) != m || mul(t, m, behind) != m {
			t.Errorf("%v: changed", x)
		}
	}
}

// Promise 2.4: an inverse, times its matrix, is the identity, from both sides; its own inverse is the matrix; those of a product are those of its factors, turned round.
func TestInversesUndo(t *testing.T) {
	s := seed(8)
	for _, n := range []int{1, 2, 3, 4, 5, 8, 16, 40, 100} {
		for range 3 {
			a, b := s.regular(n), s.regular(n)
			i, j := undone(t, n, a), undone(t, n, b)
			if undone(t, n, i) != a {
				t.Errorf("%d: back to another one", n)
			}
			if undone(t, n, mul(t, a, b)) != mul(t, j, i) {
				t.Errorf("%d: another one of the product", n)
			}
		}
	}
	undone(t, 255, s.regular(255))
}

// regular answers a matrix that has an inverse: of the products of one with ones from its lower left on, one with ones to its upper right, and one whose rows go round, so that rows must be swapped.
func (s *seed) regular(n int) api.Matrix {
	low, up, round := make([]byte, n*n), make([]byte, n*n), make([]byte, n*n)
	for i := range n {
		for j := range n {
			switch {
			case i == j:
				low[i*n+j], up[i*n+j] = byte(1+s.next(255)), 1
			case i > j:
				low[i*n+j] = byte(s.next(256))
			default:
				up[i*n+j] = byte(s.next(256))
			}
		}
		round[i*n+(i+1)%n] = 1
	}
	square := func(l []byte) api.Matrix { return api.Matrix{Rows: n, Cols: n, Cells: string(l)} }
	return product(square(round), product(square(low), square(up)))
}

// Promise 2.4: any k unlike rows of a generator have an inverse: all choices of small ones.
func TestGeneratorAnyRows(t *testing.T) {
	for k := 1; k <= 5; k++ {
		for m := range 6 {
			g, e := Generator(k, m)
			if e != api.OK {
				t.Fatal(k, m, e)
			}
			for set := range 1 << (k + m) {
				var rows []int
				for i := range k + m {
					if set>>i&1 == 1 {
						rows = append(rows, i)
					}
				}
				if len(rows) == k {
					p, _ := Pick(g, rows...)
					undone(t, rows, p)
				}
			}
		}
	}
}

// Promise 2.4: so do k of greater ones, in any order; and a row that is there twice has none.
func TestGeneratorSomeRows(t *testing.T) {
	s := seed(9)
	for _, x := range [][2]int{{1, 254}, {2, 253}, {6, 6}, {10, 245}, {30, 50}, {127, 128}, {200, 55}, {254, 1}, {255, 0}} {
		k, m := x[0], x[1]
		g, _ := Generator(k, m)
		rows := make([]int, k+m)
		for i := range rows {
			j := s.next(i + 1)
			rows[i], rows[j] = rows[j], i
		}
		rows = rows[:k]
		p, _ := Pick(g, rows...)
		undone(t, x, p)
		if k > 1 {
			rows[k-1] = rows[0]
			p, _ = Pick(g, rows...)
			i, e := Inverse(p)
			refused(t, x, i, e, api.ErrSingle)
		}
	}
	g, _ := Generator(100, 100)
	behind := make([]int, 100)
	for i := range behind {
		behind[i] = 100 + i
	}
	p, _ := Pick(g, behind...)
	undone(t, "none of the identity", p)
}
