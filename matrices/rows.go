package matrices

import (
	"matrices/api"
	"matrices/grid"
)

// Echelon makes the row form (P8).
func (s *Store) Echelon(h int) ([]int, api.Errno) {
	m, ok := s.find(h)
	if !ok {
		return nil, api.ErrNoHandle
	}
	if tooBig(m) {
		return nil, api.ErrTooBig
	}
	if s.room() < 3 {
		return nil, api.ErrFull
	}
	f := m.Echelon()
	return s.keepAll([]grid.Matrix{f.H, f.U, f.W}), api.OK
}

// Member tells whether a row is spanned (P9).
func (s *Store) Member(g int, h int) (bool, int, api.Errno) {
	m, held := s.find(g)
	row, rowHeld := s.find(h)
	if !held || !rowHeld {
		return false, -1, api.ErrNoHandle
	}
	if row.Rows() != 1 || row.Cols() != m.Cols() {
		return false, -1, api.ErrShape
	}
	if tooBig(m) || tooBig(row) {
		return false, -1, api.ErrTooBig
	}
	c, spanned := m.Echelon().Express(row)
	if !spanned {
		return false, -1, api.OK
	}
	if s.room() < 1 {
		return false, -1, api.ErrFull
	}
	return true, s.keep(c), api.OK
}

// Equal tells whether two span the same (P9).
func (s *Store) Equal(g int, h int) (bool, api.Errno) {
	m, n, e := s.findAlike(g, h)
	if e != api.OK {
		return false, e
	}
	// Two row forms that span the same are the same, but for rows of noughts.
	ours := m.Echelon().Basis()
	theirs := n.Echelon().Basis()
	return ours.Is(theirs), api.OK
}

// Sum makes what two span together (P9).
func (s *Store) Sum(g int, h int) (int, api.Errno) {
	m, n, e := s.findAlike(g, h)
	if e != api.OK {
		return -1, e
	}
	if s.room() < 1 {
		return -1, api.ErrFull
	}
	sum := m.Over(n).Echelon().Basis()
	return s.keep(sum), api.OK
}

// findAlike finds two operands that have as many columns, or tells which
// refusal is due (P5).
func (s *Store) findAlike(g int, h int) (grid.Matrix, grid.Matrix, api.Errno) {
	m, mHeld := s.find(g)
	n, nHeld := s.find(h)
	if !mHeld || !nHeld {
		return grid.Matrix{}, grid.Matrix{}, api.ErrNoHandle
	}
	if m.Cols() != n.Cols() {
		return grid.Matrix{}, grid.Matrix{}, api.ErrShape
	}
	if tooBig(m) || tooBig(n) {
		return grid.Matrix{}, grid.Matrix{}, api.ErrTooBig
	}
	return m, n, api.OK
}
