package grid

import (
	"testing"

	"matrices/whole"
)

func of(rows int, cols int, entries ...int64) Matrix {
	cells := []whole.Int{}
	for _, v := range entries {
		cells = append(cells, whole.FromInt64(v))
	}
	return FromCells(rows, cols, cells)
}

func same(a Matrix, b Matrix) bool {
	if a.Rows() != b.Rows() || a.Cols() != b.Cols() {
		return false
	}
	for r := 0; r < a.Rows(); r++ {
		for c := 0; c < a.Cols(); c++ {
			if !a.At(r, c).Sub(b.At(r, c)).IsZero() {
				return false
			}
		}
	}
	return true
}

func TestSides(t *testing.T) {
	for _, c := range []struct{ rows, cols, wantRows, wantCols int }{
		{0, 0, 0, 0}, {2, 0, 2, 0}, {0, 3, 0, 3}, {99, 99, 99, 99},
		{-1, 2, 0, 0}, {2, -1, 0, 0}, {100, 0, 0, 0}, {0, 100, 0, 0}, {1 << 62, 1 << 62, 0, 0},
	} {
		m := Noughts(c.rows, c.cols)
		if m.Rows() != c.wantRows || m.Cols() != c.wantCols {
			t.Errorf("Noughts(%d, %d) is %dx%d", c.rows, c.cols, m.Rows(), m.Cols())
		}
	}
}

func TestAtOutOfBounds(t *testing.T) {
	m := of(2, 2, 1, 2, 3, 4)
	for _, at := range [][2]int{{-1, 0}, {0, -1}, {2, 0}, {0, 2}, {1 << 62, 1 << 62}} {
		if !m.At(at[0], at[1]).IsZero() {
			t.Errorf("At(%d, %d) is not 0", at[0], at[1])
		}
	}
}

func TestFromCellsCopies(t *testing.T) {
	cells := []whole.Int{whole.FromInt64(1), whole.FromInt64(2), whole.FromInt64(3)}
	m := FromCells(1, 2, cells)
	cells[0] = whole.FromInt64(9)
	if !same(m, of(1, 2, 1, 2)) {
		t.Error("a matrix shares memory with the cells it was made of")
	}
	if !same(FromCells(2, 2, cells[:1]), of(2, 2, 9, 0, 0, 0)) {
		t.Error("entries that are missing are not 0")
	}
}

func TestFits(t *testing.T) {
	for _, c := range []struct {
		m    Matrix
		want bool
	}{
		{of(0, 0), true}, {Noughts(4, 4), true}, {Noughts(5, 0), false}, {Noughts(0, 5), false}, {Noughts(5, 4), false}, {Noughts(4, 5), false},
		{of(1, 2, 0, 1<<48-1), true}, {of(1, 2, 0, -1<<48+1), true}, {of(1, 2, 0, 1<<48), false}, {of(2, 1, -1<<48, 0), false},
	} {
		if c.m.Fits(4, 48) != c.want {
			t.Errorf("Fits of %dx%d is not %v", c.m.Rows(), c.m.Cols(), c.want)
		}
	}
}

func TestReckoningLeavesTheOperands(t *testing.T) {
	m := of(3, 3, 0, 2, 3, 4, 5, 6, 7, 8, 9)
	m.Rank()
	m.Det()
	m.Times(m)
	if !same(m, of(3, 3, 0, 2, 3, 4, 5, 6, 7, 8, 9)) {
		t.Error("an operand was changed")
	}
}

func TestDetOfUnequalSides(t *testing.T) {
	if !of(1, 2, 3, 4).Det().IsZero() || !Noughts(0, 3).Det().IsZero() {
		t.Error("Det of unequal sides is not 0")
	}
}
