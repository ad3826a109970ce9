package matrix

import (
	"corncrib/api"
	"corncrib/gf"
)

// table is the rows of a square matrix, each with that of the identity behind it. What turns the former into the identity turns the latter into the inverse.
type table struct {
	f    *gf.Field
	rows [][]byte
}

// newTable answers the table of a square matrix.
func newTable(m api.Matrix) *table {
	t := &table{f: gf.New(), rows: make([][]byte, m.Rows)}
	for row := range t.rows {
		l := make([]byte, 2*m.Cols)
		copy(l, cells(m, row))
		l[m.Cols+row] = 1
		t.rows[row] = l
	}
	return t
}

// solve turns the matrix into the identity, column by column; false, if that can't be.
func (t *table) solve() bool {
	for col := range t.rows {
		if !t.first(col, t.leads, t.swap) {
			return false
		}
		t.norm(col)
		t.each(col, t.reduce)
	}
	return true
}

// first does a thing with the first row, from that of the column's number on, of which something holds; false, if there is none.
func (t *table) first(col int, holds func(row, col int) bool, do func(row, col int)) bool {
	for row := col; row < len(t.rows); row++ {
		if holds(row, col) {
			do(row, col)
			return true
		}
	}
	return false
}

// each does a thing with all rows.
func (t *table) each(col int, do func(row, col int)) {
	for row := range t.rows {
		do(row, col)
	}
}

// leads tells whether the row can clear the column in others.
func (t *table) leads(row, col int) bool { return t.rows[row][col] != 0 }

// swap puts the row in the place of that with the column's number.
func (t *table) swap(row, col int) { t.rows[row], t.rows[col] = t.rows[col], t.rows[row] }

// norm scales the row with the column's number so that it has 1 in the column.
func (t *table) norm(col int) {
	factor, _ := t.f.Inv(t.rows[col][col]) // not of 0: the row leads
	copy(t.rows[col], t.f.Scale(factor, string(t.rows[col])))
}

// reduce clears the column in another row by the row with the column's number.
func (t *table) reduce(row, col int) {
	factor := t.rows[row][col]
	if row == col || factor == 0 {
		return
	}
	lead := t.rows[col]
	for i := col; i < len(lead); i++ { // ahead of the column the leading row is cleared already
		t.rows[row][i] = gf.Add(t.rows[row][i], t.f.Mul(factor, lead[i]))
	}
}

// beside answers the cell of what stands behind the matrix.
func (t *table) beside(row, col int) byte { return t.rows[row][len(t.rows)+col] }
