package grid

import "matrices/whole"

// RowForm is what Echelon makes of a matrix A: its row form H (P8), with U
// times A = H and U times W a unit matrix. The first Rank rows of H have a
// pivot, the others are noughts.
type RowForm struct {
	H    Matrix
	U    Matrix
	W    Matrix
	Rank int
}

// Echelon brings m to its row form. H, U and W go through the same steps, each
// of which keeps U times m = H and U times W a unit matrix.
func (m Matrix) Echelon() RowForm {
	start := FromCells(m.rows, m.cols, m.cells)
	f := &RowForm{H: start, U: Unit(m.rows), W: Unit(m.rows)}
	for c := 0; c < m.cols; c++ {
		f.gather(c)
	}
	return *f
}

// gather makes the next row's pivot in a column, unless all is 0 there. The
// entry that is least in amount divides the others, and gets smaller with each
// round; to take the least keeps U and W far smaller than Euclid's steps with
// one row after the other would.
func (f *RowForm) gather(col int) {
	top := f.Rank
	least := f.H.leastIn(col, top)
	if least < 0 {
		return
	}
	for least >= 0 {
		f.swap(top, least)
		f.lessen(top+1, f.H.rows, top, col)
		least = f.H.leastIn(col, top+1)
	}
	if f.H.At(top, col).IsBelow() {
		f.turn(top)
	}
	f.lessen(0, top, top, col)
	f.Rank++
}

// lessen leaves of the entries of a column, in the rows from first to ahead of
// end, what is left when they are divided by the pivot.
func (f *RowForm) lessen(first int, end int, pivot int, col int) {
	by := f.H.At(pivot, col)
	for r := first; r < end; r++ {
		share := f.H.At(r, col).Quotient(by)
		f.take(r, pivot, share)
	}
}

// take takes a row, share times, away from another one.
func (f *RowForm) take(from int, row int, share whole.Int) {
	f.H.takeRow(from, row, share)
	f.U.takeRow(from, row, share)
	back := share.Neg()
	f.W.takeCol(row, from, back)
}

func (f *RowForm) swap(g int, h int) {
	f.H.swapRows(g, h)
	f.U.swapRows(g, h)
	f.W.swapCols(g, h)
}

// turn turns the signs of a row.
func (f *RowForm) turn(row int) {
	f.H.turnRow(row)
	f.U.turnRow(row)
	f.W.turnCol(row)
}

// Basis is the row form without its rows of noughts.
func (f RowForm) Basis() Matrix {
	return FromCells(f.Rank, f.H.cols, f.H.cells)
}

// Express is the row c with c times A = v, and whether there is one; v has one
// row, and as many columns as A. Each pivot tells how often its row is in v; a
// pivot that does not divide leaves something that no later row can mend.
func (f RowForm) Express(v Matrix) (Matrix, bool) {
	work := f.H.Over(v)
	last := f.H.rows
	shares := Noughts(1, f.H.rows)
	for r := 0; r < f.Rank; r++ {
		col := f.H.pivotOf(r)
		by := f.H.At(r, col)
		share := work.At(last, col).Quotient(by)
		work.takeRow(last, r, share)
		shares.set(0, r, share)
	}
	if work.pivotOf(last) >= 0 {
		return Matrix{}, false
	}
	return shares.Times(f.U), true
}

// leastIn is the row, from row from on, whose entry in the column is the least
// in amount of those that are not 0, or -1.
func (m Matrix) leastIn(col int, from int) int {
	least := -1
	for r := from; r < m.rows; r++ {
		v := m.At(r, col)
		if v.IsZero() {
			continue
		}
		if least < 0 || v.IsSmaller(m.At(least, col)) {
			least = r
		}
	}
	return least
}

// pivotOf is the column of a row's first entry that is not 0, or -1.
func (m Matrix) pivotOf(row int) int {
	for c := 0; c < m.cols; c++ {
		if !m.At(row, c).IsZero() {
			return c
		}
	}
	return -1
}
