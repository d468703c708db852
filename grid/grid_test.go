package grid

import (
	"testing"

	"matrices/whole"
)

func of(rows int, cols int, entries ...int64) Matrix {
	cells := []whole.Int{}
	for _, v := range entries {
		cells = append(cells, whole.FromInt64(v))
	}
	return FromCells(rows, cols, cells)
}

func TestSides(t *testing.T) {
	for _, c := range []struct{ rows, cols, wantRows, wantCols int }{
		{0, 0, 0, 0}, {2, 0, 2, 0}, {0, 3, 0, 3}, {99, 99, 99, 99},
		{-1, 2, 0, 0}, {2, -1, 0, 0}, {100, 0, 0, 0}, {0, 100, 0, 0}, {1 << 62, 1 << 62, 0, 0},
	} {
		m := Noughts(c.rows, c.cols)
		if m.Rows() != c.wantRows || m.Cols() != c.wantCols {
			t.Errorf("Noughts(%d, %d) is %dx%d", c.rows, c.cols, m.Rows(), m.Cols())
		}
	}
}

func TestAtOutOfBounds(t *testing.T) {
	m := of(2, 2, 1, 2, 3, 4)
	for _, at := range [][2]int{{-1, 0}, {0, -1}, {2, 0}, {0, 2}, {1 << 62, 1 << 62}} {
		if !m.At(at[0], at[1]).IsZero() {
			t.Errorf("At(%d, %d) is not 0", at[0], at[1])
		}
	}
}

func TestFromCellsCopies(t *testing.T) {
	cells := []whole.Int{whole.FromInt64(1), whole.FromInt64(2), whole.FromInt64(3)}
	m := FromCells(1, 2, cells)
	cells[0] = whole.FromInt64(9)
	if !m.Is(of(1, 2, 1, 2)) {
		t.Error("a matrix shares memory with the cells it was made of")
	}
	if !FromCells(2, 2, cells[:1]).Is(of(2, 2, 9, 0, 0, 0)) {
		t.Error("entries that are missing are not 0")
	}
}

func TestFits(t *testing.T) {
	for _, c := range []struct {
		m    Matrix
		want bool
	}{
		{of(0, 0), true}, {Noughts(4, 4), true}, {Noughts(5, 0), false}, {Noughts(0, 5), false}, {Noughts(5, 4), false}, {Noughts(4, 5), false},
		{of(1, 2, 0, 1<<48-1), true}, {of(1, 2, 0, -1<<48+1), true}, {of(1, 2, 0, 1<<48), false}, {of(2, 1, -1<<48, 0), false},
	} {
		if c.m.Fits(4, 48) != c.want {
			t.Errorf("Fits of %dx%d is not %v", c.m.Rows(), c.m.Cols(), c.want)
		}
	}
}

func TestReckoningLeavesTheOperands(t *testing.T) {
	m := of(3, 3, 0, 2, 3, 4, 5, 6, 7, 8, 9)
	m.Echelon()
	m.Over(m)
	m.Det()
	m.Times(m)
	m.Flipped()
	m.Diagonal()
	m.Solve(of(3, 1, 5, 15, 24))
	m.Reduce()
	if !m.Is(of(3, 3, 0, 2, 3, 4, 5, 6, 7, 8, 9)) {
		t.Error("an operand was changed")
	}
}

func TestDetOfUnequalSides(t *testing.T) {
	if !of(1, 2, 3, 4).Det().IsZero() || !Noughts(0, 3).Det().IsZero() {
		t.Error("Det of unequal sides is not 0")
	}
}

func TestIs(t *testing.T) {
	m := of(2, 2, 1, 2, 3, 4)
	if !m.Is(of(2, 2, 1, 2, 3, 4)) || !of(0, 3).Is(of(0, 3)) {
		t.Error("a matrix is not as itself")
	}
	for _, n := range []Matrix{of(2, 2, 1, 2, 3, -4), of(2, 2, -1, 2, 3, 4), of(2, 1, 1, 2), of(1, 4, 1, 2, 3, 4), of(0, 0), of(0, 2)} {
		if m.Is(n) || n.Is(m) {
			t.Errorf("two of %dx%d and 2x2 are the same", n.Rows(), n.Cols())
		}
	}
}

func TestOver(t *testing.T) {
	m, n := of(1, 2, 1, 2), of(2, 2, 3, 4, 5, 6)
	if !m.Over(n).Is(of(3, 2, 1, 2, 3, 4, 5, 6)) || !n.Over(m).Is(of(3, 2, 3, 4, 5, 6, 1, 2)) {
		t.Error("rows are not where they should be")
	}
	if !of(0, 2).Over(m).Is(m) || !m.Over(of(0, 2)).Is(m) || !of(2, 0).Over(of(1, 0)).Is(of(3, 0)) {
		t.Error("no rows, or no columns, are not as they should be")
	}
}

func TestUnit(t *testing.T) {
	if !Unit(2).Is(of(2, 2, 1, 0, 0, 1)) || !Unit(0).Is(of(0, 0)) || !Unit(-1).Is(of(0, 0)) || !Unit(MaxSide+1).Is(of(0, 0)) {
		t.Error("a unit matrix is wrong")
	}
}

func TestRowFormOfManyRows(t *testing.T) {
	m := Noughts(8, 4)
	for i := range m.cells {
		m.cells[i] = whole.FromInt64(int64(i*i*i*7919%1000003) - 500000)
	}
	f := m.Echelon()
	if !f.U.Times(m).Is(f.H) || !f.U.Times(f.W).Is(Unit(8)) {
		t.Error("U or W does not show that H is right")
	}
	if f.Rank != 4 || !f.Basis().Over(Noughts(4, 4)).Is(f.H) {
		t.Errorf("the rank is %d, the basis has %d rows", f.Rank, f.Basis().Rows())
	}
}

// What is not too great for an answer is not made far greater than it need be:
// the common divisor of four entries takes no shares beyond the entries.
func TestSharesStaySmall(t *testing.T) {
	const bits = 48
	m := of(4, 1, 1<<bits-1, 1<<bits-2, 1<<bits-3, 1<<bits-5)
	f := m.Echelon()
	if !f.U.Fits(4, bits) || !f.W.Fits(4, bits) {
		t.Error("U or W has grown too far")
	}
}

func TestFlipped(t *testing.T) {
	if !of(2, 3, 1, 2, 3, 4, 5, 6).Flipped().Is(of(3, 2, 1, 4, 2, 5, 3, 6)) {
		t.Error("an entry is not where it should be")
	}
	if !of(0, 3).Flipped().Is(of(3, 0)) || !of(2, 0).Flipped().Is(of(0, 2)) || !of(0, 0).Flipped().Is(of(0, 0)) {
		t.Error("no rows, or no columns, are not as they should be")
	}
}

func TestKernel(t *testing.T) {
	for _, c := range []struct{ m, want Matrix }{
		{of(3, 1, 0, 5, 0), of(2, 3, 0, 0, 0, 0, 0, 0)}, {of(2, 0), of(2, 2)}, {of(0, 2), of(0, 0)}, {of(2, 2, 1, 0, 0, 1), of(0, 2)},
	} {
		k := c.m.Echelon().Kernel()
		if k.Rows() != c.want.Rows() || k.Cols() != c.want.Cols() || !k.Times(c.m).Is(Noughts(k.Rows(), c.m.Cols())) {
			t.Errorf("of %dx%d the kernel is %dx%d, or its product is not noughts", c.m.Rows(), c.m.Cols(), k.Rows(), k.Cols())
		}
		if k.Echelon().Rank != k.Rows() {
			t.Error("rows of a kernel hang together")
		}
	}
}

func TestDiagonalOfManyRows(t *testing.T) {
	for _, sides := range [][2]int{{8, 4}, {4, 8}, {7, 7}, {1, 9}} {
		m := Noughts(sides[0], sides[1])
		for i := range m.cells {
			m.cells[i] = whole.FromInt64(int64(i*i*i*7919%10007) - 5000)
		}
		f := m.Diagonal()
		if !f.U.Times(m).Times(f.V).Is(f.D) || !f.U.Times(f.S).Is(Unit(m.rows)) || !f.V.Times(f.T).Is(Unit(m.cols)) {
			t.Error("U, S, V or T does not show that D is right")
		}
		if !f.D.isDiagonal() || f.D.oddPlace() >= 0 || f.Index().IsBelow() {
			t.Errorf("D of %dx%d is no diagonal form", m.rows, m.cols)
		}
	}
}

func TestOddPlace(t *testing.T) {
	for _, c := range []struct {
		m    Matrix
		want int
	}{
		{of(0, 0), -1}, {of(1, 1, 3), -1}, {of(2, 2, 2, 0, 0, 3), 0}, {of(2, 2, 2, 0, 0, 4), -1}, {of(2, 2, 2, 0, 0, 0), -1}, {of(2, 2, 0, 0, 0, 2), 0}, {of(2, 2, 0, 0, 0, 0), -1},
		{of(3, 3, 1, 0, 0, 0, 4, 0, 0, 0, 6), 1}, {of(3, 2, 2, 0, 0, 3, 0, 0), 0}, {of(2, 3, 2, 0, 0, 0, 2, 0), -1},
	} {
		if got := c.m.oddPlace(); got != c.want {
			t.Errorf("the odd place of %dx%d is %d, want %d", c.m.rows, c.m.cols, got, c.want)
		}
	}
}

// Forms of rows and columns in turn keep what shows that D is right far smaller
// than steps with single entries would.
func TestDiagonalStaysSmall(t *testing.T) {
	const m, n = 1<<48 - 1, 1<<48 - 59
	f := of(4, 4, m, n, 3, -n, n-7, m-2, -m, 5, m-4, 11, n-9, m, -m+8, n, m-6, 13).Diagonal()
	for i, one := range []Matrix{f.U, f.S, f.V, f.T} {
		if !one.Fits(4, 8*48) {
			t.Errorf("of U, S, V and T the one at %d has grown too far", i)
		}
	}
}

func TestVolumeAndLean(t *testing.T) {
	m := of(3, 3, 2, 0, 0, 3, 5, 0, -7, 11, 4)
	for count, want := range []int64{1, 4, 100, 1600} {
		if got := m.volume(count); !got.Is(whole.FromInt64(want)) {
			t.Errorf("the volume of %d rows is %s, want %d", count, got.Decimal(), want)
		}
	}
	// m(1, 0) = 3/2, m(2, 0) = -7/2, m(2, 1) = 11/5.
	for _, c := range [][3]int64{{1, 0, 6}, {2, 0, -14}, {2, 1, 220}, {0, 0, 4}, {1, 1, 100}, {2, 2, 1600}} {
		if got := m.lean(int(c[0]), int(c[1])); !got.Is(whole.FromInt64(c[2])) {
			t.Errorf("row %d leans on row %d by %s, want %d", c[0], c[1], got.Decimal(), c[2])
		}
	}
}

func TestWithoutRow(t *testing.T) {
	m := of(3, 2, 1, 2, 3, 4, 5, 6)
	for row, want := range []Matrix{of(2, 2, 3, 4, 5, 6), of(2, 2, 1, 2, 5, 6), of(2, 2, 1, 2, 3, 4)} {
		if !m.withoutRow(row).Is(want) {
			t.Errorf("without row %d the others are not as they were", row)
		}
	}
	if !of(2, 0).withoutRow(1).Is(of(1, 0)) || !of(1, 2, 3, 4).withoutRow(0).Is(of(0, 2)) {
		t.Error("no rows, or no columns, are not as they should be")
	}
}

// What is short already stays as it is: halves, and rows that are just long
// enough, are no reason to change it.
func TestShortRowsStay(t *testing.T) {
	for _, m := range []Matrix{
		of(0, 0), of(0, 3), of(1, 1, -7), of(2, 2, 2, 0, 1, 5), of(2, 2, 2, 0, -1, 5), of(2, 3, 2, 0, 0, 1, 1, 1), of(2, 3, 2, 0, 0, -1, 1, 1), of(2, 4, 2, 0, 0, 0, 0, 1, 1, 1),
		of(3, 3, 2, 0, 0, 1, 2, 0, 1, -1, 3), of(4, 4, 1, 0, 0, 0, 0, -1, 0, 0, 0, 0, 1, 0, 0, 0, 0, 1),
	} {
		f := m.Reduce()
		if !f.R.Is(m) || !f.T.Is(Unit(m.rows)) {
			t.Errorf("short rows, %dx%d, have been changed", m.rows, m.cols)
		}
	}
}

func TestReduceOfManyRows(t *testing.T) {
	m := Noughts(12, 4)
	for i := range m.cells {
		m.cells[i] = whole.FromInt64(int64(i*i*i*7919%1000003) - 500000)
	}
	f := m.Reduce()
	if !f.T.Times(m).Is(f.R) || f.R.rows != 4 {
		t.Errorf("R has %d rows, or T does not show that it is right", f.R.rows)
	}
	if !f.R.Echelon().Basis().Is(m.Echelon().Basis()) {
		t.Error("R spans something else")
	}
}

// Rows that hang together are lessened by each other, and not brought to their
// row form first: that keeps T small, though it is free.
func TestReduceStaysSmall(t *testing.T) {
	const m, n = 1<<48 - 1, 1<<48 - 59
	f := of(4, 3, m, n, 3, n-7, m-2, -m, m-4, 11, n-9, -m+8, n, m-6).Reduce()
	if !f.T.Fits(4, 4*48) || !f.R.Fits(4, 8) {
		t.Error("T or R has grown too far")
	}
}
