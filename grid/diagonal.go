package grid

import "matrices/whole"

// DiagonalForm is what Diagonal makes of a matrix A: its diagonal form D (P10),
// with U times A times V = D, and U times S and V times T unit matrices.
type DiagonalForm struct {
	D Matrix
	U Matrix
	S Matrix
	V Matrix
	T Matrix
}

// Diagonal brings m to its diagonal form: by row forms of its rows and of its
// columns in turn, which keep all numbers far smaller than steps with single
// entries would.
//
// It ends: with each round the first entry of the diagonal becomes a smaller
// divisor of itself, or its row and its column are noughts but for it and stay
// so; then the same holds of the next entry. Mixing makes an entry smaller
// (with the next round), and none ahead of it greater.
func (m Matrix) Diagonal() DiagonalForm {
	f := &DiagonalForm{D: m, U: Unit(m.rows), S: Unit(m.rows), V: Unit(m.cols), T: Unit(m.cols)}
	open := true
	for open {
		f.formRows()
		f.formCols()
		open = !f.D.isDiagonal()
		if !open {
			open = f.mix()
		}
	}
	return *f
}

func (f *DiagonalForm) formRows() {
	form := f.D.Echelon()
	f.D = form.H
	f.U = form.U.Times(f.U)
	f.S = f.S.Times(form.W)
}

func (f *DiagonalForm) formCols() {
	form := f.D.Flipped().Echelon()
	right := form.U.Flipped()
	back := form.W.Flipped()
	f.D = form.H.Flipped()
	f.V = f.V.Times(right)
	f.T = back.Times(f.T)
}

// mix adds to the column of an entry on the diagonal that does not divide the
// next one the column of that, so that the next row form makes of the two their
// greatest common divisor; it tells whether there was such an entry.
func (f *DiagonalForm) mix() bool {
	at := f.D.oddPlace()
	if at < 0 {
		return false
	}
	one := whole.FromInt64(1)
	less := one.Neg()
	f.D.takeCol(at, at+1, less)
	f.V.takeCol(at, at+1, less)
	f.T.takeRow(at+1, at, one)
	return true
}

// Index is the product of the entries of D that are not 0 (P11).
func (f DiagonalForm) Index() whole.Int {
	product := whole.FromInt64(1)
	for i := 0; i < f.D.rows && i < f.D.cols; i++ {
		v := f.D.At(i, i)
		if !v.IsZero() {
			product = product.Mul(v)
		}
	}
	return product
}

// isDiagonal tells whether all is 0 off the diagonal.
func (m Matrix) isDiagonal() bool {
	for r := 0; r < m.rows; r++ {
		for c := 0; c < m.cols; c++ {
			if r != c && !m.At(r, c).IsZero() {
				return false
			}
		}
	}
	return true
}

// oddPlace is the first place of the diagonal whose entry does not divide the
// next one, or -1.
func (m Matrix) oddPlace() int {
	for i := 1; i < m.rows && i < m.cols; i++ {
		ahead := m.At(i-1, i-1)
		if !m.At(i, i).IsMultiple(ahead) {
			return i - 1
		}
	}
	return -1
}
