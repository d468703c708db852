package grid

import "matrices/whole"

// Det is the determinant of a square matrix (0 if it is not square). It is
// unfolded along the first row, which needs no division; the work grows as the
// factorial of the side, so that it is meant for small sides alone.
func (m Matrix) Det() whole.Int {
	if !m.IsSquare() {
		return whole.Int{}
	}
	if m.rows == 0 {
		return whole.FromInt64(1)
	}
	sum := whole.Int{}
	for c := 0; c < m.cols; c++ {
		minor := m.withoutFirstRow(c)
		rest := minor.Det()
		part := m.At(0, c).Mul(rest)
		if c%2 == 1 {
			part = part.Neg()
		}
		sum = sum.Add(part)
	}
	return sum
}

// withoutFirstRow is what stays when the first row and a column are left out.
func (m Matrix) withoutFirstRow(col int) Matrix {
	minor := Noughts(m.rows-1, m.cols-1)
	for r := 1; r < m.rows; r++ {
		for c := 0; c < m.cols; c++ {
			v := m.At(r, c)
			if c < col {
				minor.set(r-1, c, v)
			}
			if c > col {
				minor.set(r-1, c-1, v)
			}
		}
	}
	return minor
}
