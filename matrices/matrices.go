// Package matrices: matrices of whole numbers, by handles: see DOC.md.
package matrices

import (
	"matrices/api"
	"matrices/notation"
)

// Store holds matrices.
type Store struct {
	slots [api.MaxHandles]slot
	next  int // the handle that comes next: never one that was given before
}

// New makes a store that holds nothing.
func New() *Store { return &Store{} }

// Type takes a matrix as text (P3).
func (s *Store) Type(t string) (int, api.Errno) {
	if len(t) > api.MaxText {
		return -1, api.ErrSyntax
	}
	m, ok := notation.Read(t)
	if !ok {
		return -1, api.ErrSyntax
	}
	if tooBig(m) {
		return -1, api.ErrTooBig
	}
	if s.room() < 1 {
		return -1, api.ErrFull
	}
	return s.keep(m), api.OK
}

// Show tells a matrix as text (P4).
func (s *Store) Show(h int) (string, api.Errno) {
	m, ok := s.find(h)
	if !ok {
		return "", api.ErrNoHandle
	}
	return notation.Write(m), api.OK
}

// Free lets a matrix go (P4).
func (s *Store) Free(h int) api.Errno {
	i := s.place(h)
	if i < 0 {
		return api.ErrNoHandle
	}
	s.slots[i] = slot{}
	return api.OK
}

// Times makes a product (P6).
func (s *Store) Times(g int, h int) (int, api.Errno) {
	left, leftHeld := s.find(g)
	right, rightHeld := s.find(h)
	if !leftHeld || !rightHeld {
		return -1, api.ErrNoHandle
	}
	if left.Cols() != right.Rows() {
		return -1, api.ErrShape
	}
	if tooBig(left) || tooBig(right) {
		return -1, api.ErrTooBig
	}
	if s.room() < 1 {
		return -1, api.ErrFull
	}
	product := left.Times(right)
	return s.keep(product), api.OK
}

// Det tells a determinant (P7).
func (s *Store) Det(h int) (string, api.Errno) {
	m, ok := s.find(h)
	if !ok {
		return "", api.ErrNoHandle
	}
	if !m.IsSquare() {
		return "", api.ErrShape
	}
	if tooBig(m) {
		return "", api.ErrTooBig
	}
	return m.Det().Decimal(), api.OK
}

// Rank tells a rank (P7).
func (s *Store) Rank(h int) (int, api.Errno) {
	m, ok := s.find(h)
	if !ok {
		return -1, api.ErrNoHandle
	}
	if tooBig(m) {
		return -1, api.ErrTooBig
	}
	return m.Echelon().Rank, api.OK
}
