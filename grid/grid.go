// Package grid: matrices of whole numbers, and what can be reckoned of them.
package grid

import "matrices/whole"

// Matrix is a matrix; the zero value has no rows and no columns. Outside this
// package a Matrix is never changed, so that copies may share their cells.
type Matrix struct {
	rows  int
	cols  int
	cells []whole.Int // row by row
}

// MaxSide is the greatest side that a matrix can have.
const MaxSide = 99

// Noughts is a matrix of these sides, all of whose entries are 0 (with no rows
// and no columns, if a side is out of bounds).
func Noughts(rows int, cols int) Matrix {
	if rows < 0 || rows > MaxSide || cols < 0 || cols > MaxSide {
		return Matrix{}
	}
	return Matrix{rows: rows, cols: cols, cells: make([]whole.Int, rows*cols)}
}

// Unit is the unit matrix of this side (with no rows, if it is out of bounds).
func Unit(side int) Matrix {
	m := Noughts(side, side)
	one := whole.FromInt64(1)
	for i := 0; i < m.rows; i++ {
		m.set(i, i, one)
	}
	return m
}

// FromCells is the matrix with these entries, row by row: 0 stands where there
// are too few, and what is beyond the last entry is left out.
func FromCells(rows int, cols int, cells []whole.Int) Matrix {
	m := Noughts(rows, cols)
	copy(m.cells, cells)
	return m
}

// Rows tells how many rows there are.
func (m Matrix) Rows() int { return m.rows }

// Cols tells how many columns there are.
func (m Matrix) Cols() int { return m.cols }

// At is an entry, counted from 0; 0 where there is none.
func (m Matrix) At(row int, col int) whole.Int {
	if !m.has(row, col) {
		return whole.Int{}
	}
	return m.cells[row*m.cols+col]
}

// IsSquare tells whether there are as many rows as columns.
func (m Matrix) IsSquare() bool { return m.rows == m.cols }

// Fits tells whether no side is above side and no entry has more than bits bits.
func (m Matrix) Fits(side int, bits int) bool {
	if m.rows > side || m.cols > side {
		return false
	}
	for i := 0; i < len(m.cells); i++ {
		if m.cells[i].Bits() > bits {
			return false
		}
	}
	return true
}

// Is tells whether m and n have the same sides and the same entries.
func (m Matrix) Is(n Matrix) bool {
	if m.rows != n.rows || m.cols != n.cols {
		return false
	}
	for i := 0; i < len(m.cells) && i < len(n.cells); i++ {
		if !m.cells[i].Is(n.cells[i]) {
			return false
		}
	}
	return true
}

// Over is the matrix of the rows of m and, below them, those of n, which has
// as many columns.
func (m Matrix) Over(n Matrix) Matrix {
	cells := []whole.Int{}
	for i := 0; i < len(m.cells); i++ {
		cells = append(cells, m.cells[i])
	}
	for i := 0; i < len(n.cells); i++ {
		cells = append(cells, n.cells[i])
	}
	return FromCells(m.rows+n.rows, m.cols, cells)
}

// Flipped has the columns of m as rows, and its rows as columns.
func (m Matrix) Flipped() Matrix {
	flipped := Noughts(m.cols, m.rows)
	for r := 0; r < m.rows; r++ {
		for c := 0; c < m.cols; c++ {
			v := m.At(r, c)
			flipped.set(c, r, v)
		}
	}
	return flipped
}

// Times is the product of m and n; n has as many rows as m has columns.
func (m Matrix) Times(n Matrix) Matrix {
	product := Noughts(m.rows, n.cols)
	for r := 0; r < m.rows; r++ {
		for c := 0; c < n.cols; c++ {
			entry := m.rowTimesColumn(r, n, c)
			product.set(r, c, entry)
		}
	}
	return product
}

func (m Matrix) rowTimesColumn(row int, n Matrix, col int) whole.Int {
	sum := whole.Int{}
	for i := 0; i < m.cols; i++ {
		left := m.At(row, i)
		right := n.At(i, col)
		part := left.Mul(right)
		sum = sum.Add(part)
	}
	return sum
}

func (m Matrix) has(row int, col int) bool {
	return row >= 0 && row < m.rows && col >= 0 && col < m.cols
}

// set writes into the cells: for a matrix that is still in the making only.
func (m *Matrix) set(row int, col int, v whole.Int) {
	if m.has(row, col) {
		m.cells[row*m.cols+col] = v
	}
}
