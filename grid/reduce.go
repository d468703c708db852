package grid

import "matrices/whole"

// ShortForm is what Reduce makes of a matrix A: rows R that are short and span
// what A spans (P13), and T with T times A = R.
type ShortForm struct {
	R Matrix
	T Matrix
}

// Reduce makes a basis of short rows. The rows ahead of row k are short, and
// none of them is a sum of fractions of the others. Row k, once it is lessened
// by them, is left out if nothing stays of it, or joins them, or changes places
// with the one just ahead.
//
// It ends. Let z be the place of the first row that is a sum of fractions of
// those ahead of it, or the count of the rows, if there is none; k is never
// beyond z. The volumes of the first 1, 2, .. z rows are whole numbers above 0,
// and lessening leaves them as they are. With a change of places one of them
// falls to less than 3/4 of what it was, and the others stay; or, if row z does
// not lean on the row ahead of it, z falls. To leave a row out is for good.
//
// The work grows as that of Det does: it is meant for small sides alone.
func (m Matrix) Reduce() ShortForm {
	start := FromCells(m.rows, m.cols, m.cells)
	f := &ShortForm{R: start, T: Unit(m.rows)}
	k := 0
	for k < f.R.rows {
		f.lessen(k)
		if f.R.pivotOf(k) < 0 {
			f.leaveOut(k)
		} else if f.R.inOrder(k) {
			k++
		} else {
			f.swap(k-1, k)
			k--
		}
	}
	return *f
}

// lessen makes m(row, q) at most 1/2 in amount for every row q ahead. The last
// q is the first to be taken away: that changes what the row leans on those
// ahead of q, and not what it leans on those behind.
func (f *ShortForm) lessen(row int) {
	for q := row - 1; q >= 0; q-- {
		part := f.R.lean(row, q)
		all := f.R.volume(q + 1)
		share := part.Nearest(all)
		f.R.takeRow(row, q, share)
		f.T.takeRow(row, q, share)
	}
}

func (f *ShortForm) swap(g int, h int) {
	f.R.swapRows(g, h)
	f.T.swapRows(g, h)
}

func (f *ShortForm) leaveOut(row int) {
	f.R = f.R.withoutRow(row)
	f.T = f.T.withoutRow(row)
}

// inOrder tells whether a row r, which leans on the row q just ahead by 1/2 at
// most, is long enough to stand behind it: whether r* . r* is at least (3/4 -
// m(r, q)^2) times q* . q*. All of it is times 4, and the volumes of the rows
// up to q and up to the one ahead of q, so that no fractions are left.
func (m Matrix) inOrder(row int) bool {
	if row == 0 {
		return true
	}
	with := m.volume(row + 1)
	upTo := m.volume(row)
	without := m.volume(row - 1)
	part := m.lean(row, row-1)
	square := part.Mul(part)
	sum := with.Mul(without).Add(square)
	have := sum.Mul(whole.FromInt64(4))
	need := upTo.Mul(upTo).Mul(whole.FromInt64(3))
	return !have.IsSmaller(need)
}

// volume is the product of r* . r* of the first rows, so many as count says,
// which is a whole number: it is the determinant of their products with each
// other. It is above 0, unless one of them is a sum of fractions of the others.
func (m Matrix) volume(count int) whole.Int {
	first := FromCells(count, m.cols, m.cells)
	return first.Times(first.Flipped()).Det()
}

// lean is m(row, q) of P13 times the volume of the rows up to q. With the row
// in the place of q, the determinant of its products has, as r* of rows are at
// right angles, row . q* where the volume has q* . q*.
func (m Matrix) lean(row int, q int) whole.Int {
	upTo := FromCells(q+1, m.cols, m.cells)
	changed := FromCells(q+1, m.cols, m.cells)
	for c := 0; c < m.cols; c++ {
		v := m.At(row, c)
		changed.set(q, c, v)
	}
	return changed.Times(upTo.Flipped()).Det()
}

func (m Matrix) withoutRow(row int) Matrix {
	rest := Noughts(m.rows-1, m.cols)
	for r := 0; r < rest.rows; r++ {
		from := r
		if r >= row {
			from = r + 1
		}
		for c := 0; c < m.cols; c++ {
			v := m.At(from, c)
			rest.set(r, c, v)
		}
	}
	return rest
}
