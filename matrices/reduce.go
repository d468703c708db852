package matrices

import (
	"matrices/api"
	"matrices/grid"
)

// Reduce makes a basis of short rows (P13).
func (s *Store) Reduce(h int) ([]int, api.Errno) {
	m, ok := s.find(h)
	if !ok {
		return nil, api.ErrNoHandle
	}
	if tooBig(m) {
		return nil, api.ErrTooBig
	}
	if s.room() < 2 {
		return nil, api.ErrFull
	}
	f := m.Reduce()
	return s.keepAll([]grid.Matrix{f.R, f.T}), api.OK
}
