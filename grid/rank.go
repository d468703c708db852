package grid

import "matrices/whole"

// Det is the determinant of a square matrix (0 if it is not square). It is
// unfolded along the first row, which needs no division; the work grows as the
// factorial of the side, so that it is meant for small sides alone.
func (m Matrix) Det() whole.Int {
	if !m.IsSquare() {
		return whole.Int{}
	}
	if m.rows == 0 {
		return whole.FromInt64(1)
	}
	sum := whole.Int{}
	for c := 0; c < m.cols; c++ {
		minor := m.withoutFirstRow(c)
		rest := minor.Det()
		part := m.At(0, c).Mul(rest)
		if c%2 == 1 {
			part = part.Neg()
		}
		sum = sum.Add(part)
	}
	return sum
}

// withoutFirstRow is what stays when the first row and a column are left out.
func (m Matrix) withoutFirstRow(col int) Matrix {
	minor := Noughts(m.rows-1, m.cols-1)
	for r := 1; r < m.rows; r++ {
		for c := 0; c < m.cols; c++ {
			v := m.At(r, c)
			if c < col {
				minor.set(r-1, c, v)
			}
			if c > col {
				minor.set(r-1, c-1, v)
			}
		}
	}
	return minor
}

// Rank tells how many rows there are, at the most, of which none is a sum of
// fractions of the others. Rows are cleared by multiplying crosswise, so that
// all stays whole; entries may double in length with each column, so that it
// is meant for small sides alone.
func (m Matrix) Rank() int {
	work := FromCells(m.rows, m.cols, m.cells)
	rank := 0
	for c := 0; c < work.cols; c++ {
		found := work.firstRowWith(c, rank)
		if found < 0 {
			continue
		}
		work.swapRows(rank, found)
		for r := rank + 1; r < work.rows; r++ {
			work.clearEntry(r, rank, c)
		}
		rank++
	}
	return rank
}

// firstRowWith is the first row, from row from on, whose entry in the column
// is not 0, or -1.
func (m Matrix) firstRowWith(col int, from int) int {
	for r := from; r < m.rows; r++ {
		if !m.At(r, col).IsZero() {
			return r
		}
	}
	return -1
}

func (m *Matrix) swapRows(g int, h int) {
	for c := 0; c < m.cols; c++ {
		upper := m.At(g, c)
		lower := m.At(h, c)
		m.set(g, c, lower)
		m.set(h, c, upper)
	}
}

// clearEntry makes the entry of row in col 0 with the help of the pivot row,
// whose entry there is not 0.
func (m *Matrix) clearEntry(row int, pivot int, col int) {
	byPivot := m.At(pivot, col)
	byOwn := m.At(row, col)
	for c := 0; c < m.cols; c++ {
		kept := m.At(row, c).Mul(byPivot)
		taken := m.At(pivot, c).Mul(byOwn)
		v := kept.Sub(taken)
		m.set(row, c, v)
	}
}
