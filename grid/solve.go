package grid

// Solve is a column x with m times x = b, a matrix K of rows as P12 says, and
// whether there is such an x; b has one column, and as many rows as m. Columns
// of m are rows of m flipped: x says how they make b, K how they make noughts.
func (m Matrix) Solve(b Matrix) (Matrix, Matrix, bool) {
	form := m.Flipped().Echelon()
	goal := b.Flipped()
	shares, ok := form.Express(goal)
	if !ok {
		return Matrix{}, Matrix{}, false
	}
	return shares.Flipped(), form.Kernel(), true
}

// Kernel is a matrix whose rows span all whole rows k with k times A noughts;
// none of them is a sum of fractions of the others. They are the rows of U that
// make H's rows of noughts: as U has W, k is a sum of whole multiples of U's
// rows, and those with a pivot can't be among them.
func (f RowForm) Kernel() Matrix {
	count := f.U.rows - f.Rank
	kernel := Noughts(count, f.U.cols)
	for r := 0; r < count; r++ {
		for c := 0; c < f.U.cols; c++ {
			v := f.U.At(f.Rank+r, c)
			kernel.set(r, c, v)
		}
	}
	return kernel
}
