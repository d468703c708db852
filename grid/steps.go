package grid

import "matrices/whole"

// The steps below write into the cells: they are for a matrix that is still in
// the making only.

func (m *Matrix) swapRows(g int, h int) {
	for c := 0; c < m.cols; c++ {
		upper := m.At(g, c)
		lower := m.At(h, c)
		m.set(g, c, lower)
		m.set(h, c, upper)
	}
}

func (m *Matrix) swapCols(g int, h int) {
	for r := 0; r < m.rows; r++ {
		left := m.At(r, g)
		right := m.At(r, h)
		m.set(r, g, right)
		m.set(r, h, left)
	}
}

func (m *Matrix) turnRow(row int) {
	for c := 0; c < m.cols; c++ {
		v := m.At(row, c).Neg()
		m.set(row, c, v)
	}
}

func (m *Matrix) turnCol(col int) {
	for r := 0; r < m.rows; r++ {
		v := m.At(r, col).Neg()
		m.set(r, col, v)
	}
}

// takeRow takes a row, share times, away from another one.
func (m *Matrix) takeRow(from int, row int, share whole.Int) {
	for c := 0; c < m.cols; c++ {
		part := m.At(row, c).Mul(share)
		v := m.At(from, c).Sub(part)
		m.set(from, c, v)
	}
}

// takeCol takes a column, share times, away from another one.
func (m *Matrix) takeCol(from int, col int, share whole.Int) {
	for r := 0; r < m.rows; r++ {
		part := m.At(r, col).Mul(share)
		v := m.At(r, from).Sub(part)
		m.set(r, from, v)
	}
}
