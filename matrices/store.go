package matrices

import (
	"matrices/api"
	"matrices/grid"
)

// slot is room for one matrix that is held.
type slot struct {
	taken  bool
	handle int
	matrix grid.Matrix
}

// place is the slot in which a handle's matrix lies, or -1.
func (s *Store) place(h int) int {
	for i := 0; i < len(s.slots); i++ {
		if s.slots[i].taken && s.slots[i].handle == h {
			return i
		}
	}
	return -1
}

// find is the matrix that a handle stands for, and whether it stands for one.
func (s *Store) find(h int) (grid.Matrix, bool) {
	i := s.place(h)
	if i < 0 {
		return grid.Matrix{}, false
	}
	return s.slots[i].matrix, true
}

// room tells how many more matrices can be held.
func (s *Store) room() int {
	free := 0
	for i := 0; i < len(s.slots); i++ {
		if !s.slots[i].taken {
			free++
		}
	}
	return free
}

// keep holds a matrix and gives it the next handle; there is room for it.
func (s *Store) keep(m grid.Matrix) int {
	for i := 0; i < len(s.slots); i++ {
		if !s.slots[i].taken {
			handle := s.next
			s.next++
			s.slots[i] = slot{taken: true, handle: handle, matrix: m}
			return handle
		}
	}
	return -1
}

// keepAll holds matrices, in their order, and lists their handles; there is
// room for them.
func (s *Store) keepAll(all []grid.Matrix) []int {
	handles := make([]int, len(all))
	for i := 0; i < len(all); i++ {
		handle := s.keep(all[i])
		handles[i] = handle
	}
	return handles
}

// tooBig tells whether a matrix is too great to be typed or reckoned with.
func tooBig(m grid.Matrix) bool {
	return !m.Fits(api.MaxDim, api.MaxBits)
}
