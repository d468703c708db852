package matrices

import (
	"matrices/api"
	"matrices/grid"
)

// Diagonal makes the diagonal form (P10).
func (s *Store) Diagonal(h int) ([]int, api.Errno) {
	m, ok := s.find(h)
	if !ok {
		return nil, api.ErrNoHandle
	}
	if tooBig(m) {
		return nil, api.ErrTooBig
	}
	if s.room() < 5 {
		return nil, api.ErrFull
	}
	f := m.Diagonal()
	return s.keepAll([]grid.Matrix{f.D, f.U, f.S, f.V, f.T}), api.OK
}

// Index counts classes (P11).
func (s *Store) Index(h int) (string, api.Errno) {
	m, ok := s.find(h)
	if !ok {
		return "", api.ErrNoHandle
	}
	if tooBig(m) {
		return "", api.ErrTooBig
	}
	return m.Diagonal().Index().Decimal(), api.OK
}

// Solve looks for whole solutions (P12).
func (s *Store) Solve(g int, h int) (bool, []int, api.Errno) {
	m, held := s.find(g)
	goal, goalHeld := s.find(h)
	if !held || !goalHeld {
		return false, nil, api.ErrNoHandle
	}
	if goal.Cols() != 1 || goal.Rows() != m.Rows() {
		return false, nil, api.ErrShape
	}
	if tooBig(m) || tooBig(goal) {
		return false, nil, api.ErrTooBig
	}
	x, kernel, ok := m.Solve(goal)
	if !ok {
		return false, nil, api.OK
	}
	if s.room() < 2 {
		return false, nil, api.ErrFull
	}
	return true, s.keepAll([]grid.Matrix{x, kernel}), api.OK
}
