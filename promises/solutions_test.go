package promises

import (
	"fmt"
	"math/rand"
	"strings"
	"testing"

	"matrices/api"
)

const unsolved, untold = "none", "" // no solution; one that is not told

// solutions: a matrix, a column, and x and K where they are told (K but for its
// sign).
var solutions = []struct{ a, b, x, k string }{
	{"2x2: 2 0; 0 3", "2x1: 4; 9", "2x1: 2; 3", "0x2:"}, {"2x2: 2 0; 0 3", "2x1: 4; 10", unsolved, ""}, {"2x2: 2 0; 0 3", "2x1: 5; 9", unsolved, ""}, {"2x2: 2 0; 0 3", "2x1: -4; 0", "2x1: -2; 0", "0x2:"}, {"2x2: 2 0; 0 3", "2x1: 0; 0", "2x1: 0; 0", "0x2:"},
	{"1x2: 6 4", "1x1: 2", untold, "1x2: 2 -3"}, {"1x2: 6 4", "1x1: 3", unsolved, ""}, {"1x2: 6 4", "1x1: -14", untold, "1x2: 2 -3"}, {"1x2: 6 4", "1x1: 0", untold, "1x2: 2 -3"}, {"1x2: 6 4", "1x1: 1", unsolved, ""},
	// No rows: every column is a solution. No columns: noughts alone have one.
	{"0x2:", "0x1:", untold, untold}, {"0x1:", "0x1:", untold, "1x1: 1"}, {"0x4:", "0x1:", untold, untold}, {"0x0:", "0x1:", "0x1:", "0x0:"},
	{"2x0:", "2x1: 0; 0", "0x1:", "0x0:"}, {"2x0:", "2x1: 0; 1", unsolved, ""}, {"2x0:", "2x1: -1; 0", unsolved, ""}, {"1x0:", "1x1: 0", "0x1:", "0x0:"}, {"1x0:", "1x1: 1", unsolved, ""}, {"4x0:", "4x1: 0; 0; 0; 0", "0x1:", "0x0:"}, {"4x0:", "4x1: 0; 0; 0; 1", unsolved, ""},
	// Noughts, in whole or in part.
	{"1x3: 0 0 0", "1x1: 0", untold, untold}, {"1x3: 0 0 0", "1x1: 1", unsolved, ""}, {"1x1: 0", "1x1: 0", untold, "1x1: 1"}, {"1x1: 0", "1x1: -1", unsolved, ""}, {"4x1: 0; 0; 0; 0", "4x1: 0; 0; 0; 0", untold, "1x1: 1"},
	{"2x2: 0 0; 0 2", "2x1: 0; 4", untold, "1x2: 1 0"}, {"2x2: 0 0; 0 2", "2x1: 1; 4", unsolved, ""}, {"2x2: 0 3; 0 2", "2x1: 3; 2", untold, "1x2: 1 0"}, {"2x2: 3 0; 2 0", "2x1: 3; 2", untold, "1x2: 0 1"}, {"2x2: 3 0; 2 0", "2x1: 3; 3", unsolved, ""},
	// Rows and columns that hang together.
	{"2x2: 1 2; 2 4", "2x1: 3; 6", untold, "1x2: 2 -1"}, {"2x2: 1 2; 2 4", "2x1: 3; 7", unsolved, ""}, {"2x2: 2 4; 4 8", "2x1: 3; 6", unsolved, ""}, {"2x2: 2 4; 4 8", "2x1: 2; 4", untold, "1x2: 2 -1"}, {"2x2: 1 1; 1 1", "2x1: 1; 2", unsolved, ""},
	{"3x3: 1 2 3; 4 5 6; 7 8 9", "3x1: 6; 15; 24", untold, "1x3: 1 -2 1"}, {"3x3: 1 2 3; 4 5 6; 7 8 9", "3x1: 6; 15; 25", unsolved, ""}, {"3x3: 1 2 3; 4 5 6; 7 8 9", "3x1: 1; 1; 1", untold, "1x3: 1 -2 1"}, {"3x3: 1 2 3; 4 5 6; 7 8 9", "3x1: 1; 2; 3", unsolved, ""},
	{"1x3: 6 10 15", "1x1: 1", untold, untold}, {"1x3: 6 10 16", "1x1: 1", unsolved, ""}, {"2x4: 2 4 6 8; 1 3 5 7", "2x1: 2; 2", untold, untold}, {"2x4: 2 4 6 8; 1 3 5 7", "2x1: 1; 2", unsolved, ""}, {"4x2: 1 0; 0 1; 1 1; 1 -1", "4x1: 2; 3; 5; -1", "2x1: 2; 3", "0x2:"}, {"4x2: 1 0; 0 1; 1 1; 1 -1", "4x1: 2; 3; 5; 0", unsolved, ""},
	{"1x1: -7", "1x1: 21", "1x1: -3", "0x1:"}, {"1x1: -7", "1x1: 22", unsolved, ""}, {"2x1: 2; 4", "2x1: 3; 6", unsolved, ""}, {"2x1: 2; 4", "2x1: -6; -12", "1x1: -3", "0x1:"}, {"2x1: 2; 4", "2x1: 2; 2", unsolved, ""},
	// Fractions would do, whole numbers do not.
	{"2x2: 1 1; 1 -1", "2x1: 1; 0", unsolved, ""}, {"2x2: 1 1; 1 -1", "2x1: 1; 1", "2x1: 1; 0", "0x2:"}, {"1x1: 2", "1x1: 1", unsolved, ""},
	// Entries just below the bound.
	{"1x1: " + most, "1x1: -" + most, "1x1: -1", "0x1:"}, {"1x1: -" + most, "1x1: 281474976710654", unsolved, ""}, {"1x1: 1", "1x1: " + most, "1x1: " + most, "0x1:"}, {"1x2: " + most + " 281474976710654", "1x1: 1", untold, "1x2: 281474976710654 -" + most}, {"1x2: " + most + " -" + most, "1x1: " + most, untold, "1x2: 1 1"}, {"1x2: " + most + " -" + most, "1x1: 1", unsolved, ""},
	// x is far greater than the entries: the determinant is -1.
	{"2x2: " + most + " 281474976710654; 281474976710654 281474976710653", "2x1: " + most + "; -" + most, "2x1: -158456325028526704862250926085; 158456325028527267812204347395", "0x2:"},
}

// negative: all signs turned.
func negative(a table) table {
	minus := unit(a.rows)
	for i := range minus.at {
		minus.at[i][i].SetInt64(-1)
	}
	return minus.times(a)
}

// checkSolve: calls Solve on a new desk and looks at every sentence of P12; x
// and K, or unsolved and nothing.
func checkSolve(d desk, a table, b table) (string, table) {
	d.t.Helper()
	g, h := d.put(a.text()), d.put(b.text())
	l := d.solve(g, h)
	if d.show(g) != a.text() || d.show(h) != b.text() || len(d.held()) != 2+len(l) {
		d.t.Fatalf("P12: Solve of %q and %q, then held: %v", a.text(), b.text(), d.held())
	}
	if l == nil {
		return unsolved, table{}
	}
	if l[0] != h+1 {
		d.t.Fatalf("P4: Solve held what comes behind %d as %v", h, l)
	}
	x, k := read(d.t, d.show(l[0])), read(d.t, d.show(l[1]))
	if x.rows != a.cols || x.cols != 1 || a.times(x).text() != b.text() {
		d.t.Fatalf("P12: Solve of %q and %q: x is %q", a.text(), b.text(), x.text())
	}
	if k.cols != a.cols || a.times(k.flipped()).text() != blank(a.rows, k.rows).text() {
		d.t.Fatalf("P12: of %q K is %q: a product is not noughts", a.text(), k.text())
	}
	if k.rows != a.cols-a.rank() || k.rank() != k.rows {
		d.t.Fatalf("P12: of %q K is %q: it has too many rows, or too few, or they hang together", a.text(), k.text())
	}
	// A fraction of what is spanned, whole and not spanned, would leave a
	// divisor of all determinants.
	if k.divisor(k.rows).String() != "1" {
		d.t.Fatalf("P12: of %q K is %q: it does not span all", a.text(), k.text())
	}
	return x.text(), k
}

func TestP12Knowns(t *testing.T) {
	for _, c := range solutions {
		x, k := checkSolve(start(t), read(t, c.a), read(t, c.b))
		if (x == unsolved) != (c.x == unsolved) || c.x != untold && x != c.x {
			t.Errorf("P12: Solve of %q and %q: x is %q, want %q", c.a, c.b, x, c.x)
		}
		if c.k != untold && k.text() != c.k && negative(k).text() != c.k {
			t.Errorf("P12: Solve of %q and %q: K is %q, want %q", c.a, c.b, k.text(), c.k)
		}
	}
}

// solvable: whether there is a solution, by determinants: b is spanned by the
// columns of a.
func solvable(a table, b table) bool { return a.flipped().spans(b.flipped()) }

func TestP12AtRandom(t *testing.T) {
	source := rand.New(rand.NewSource(12))
	yes, no, fraction := 0, 0, 0
	for i := 0; i < 3000; i++ {
		a := someTable(t, source, source.Intn(5), source.Intn(5))
		b := anyRow(source, a.flipped()).flipped()
		want := solvable(a, b)
		if x, _ := checkSolve(start(t), a, b); (x != unsolved) != want {
			t.Fatalf("P12: Solve of %q and %q: x is %q", a.text(), b.text(), x)
		}
		switch {
		case want:
			yes++
		case a.rank() == a.flipped().over(b.flipped()).rank():
			fraction++
		default:
			no++
		}
	}
	if yes < 300 || no < 300 || fraction < 300 {
		t.Errorf("the test is wrong: %d have solutions, %d have fractions alone, %d have none", yes, fraction, no)
	}
}

// The words of P12 themselves, one by one: all small columns are tried, as
// solutions, and as rows that K must span.
func TestP12AllSmall(t *testing.T) {
	source := rand.New(rand.NewSource(1212))
	for i := 0; i < 250; i++ {
		rows, cols := source.Intn(4), source.Intn(4)
		a, b := blank(rows, cols), blank(rows, 1)
		for r := range a.at {
			b.at[r][0].SetInt64(source.Int63n(5) - 2)
			for _, v := range a.at[r] {
				v.SetInt64(source.Int63n(7) - 3)
			}
		}
		got, _ := checkSolve(start(t), a, b)
		_, kernel := checkSolve(start(t), a, blank(rows, 1))
		steps := []int{1, 9, 81, 729}[cols]
		for n := 0; n < steps; n++ {
			x, rest := blank(cols, 1), int64(n)
			for c := range x.at {
				x.at[c][0].SetInt64(rest%9 - 4)
				rest /= 9
			}
			product := a.times(x).text()
			if product == b.text() && got == unsolved {
				t.Fatalf("P12: Solve of %q and %q finds nothing, but there is %q", a.text(), b.text(), x.text())
			}
			if product == blank(rows, 1).text() && !kernel.spans(x.flipped()) {
				t.Fatalf("P12: of %q K is %q, which does not span %q", a.text(), kernel.text(), x.flipped().text())
			}
		}
	}
}

func TestP12GreatEntries(t *testing.T) {
	for _, c := range [][2]string{
		{"3x4: M N M N; N M M N; M M N N", "3x1: 0; 0; 0"}, {"3x4: M N M N; N M M N; M M N N", "3x1: 1; -1; 0"}, {"3x4: M N 1 0; N N 0 1; 1 M M N", "3x1: M; N; M"},
		{"2x4: M N M N; N N M -M", "2x1: M; N"}, {"1x4: M -N M N", "1x1: M"}, {"4x4: M M M M; M -M M -M; M M -M -M; M -M -M M", "4x1: M; M; M; M"}, {"4x4: M M M M; M M M M; M M M M; M M M M", "4x1: -M; -M; -M; -M"}, {"4x1: M; N; -M; -N", "4x1: -M; -N; M; N"}, {"4x3: M N M; N M M; M M N; N N N", "4x1: M; N; M; N"},
		{"2x2: M N; N 281474976710653", "2x1: M; -M"}, {"2x2: M N; N 281474976710653", "2x1: 0; 1"},
	} {
		a := read(t, strings.ReplaceAll(strings.ReplaceAll(c[0], "M", most), "N", "281474976710654"))
		b := read(t, strings.ReplaceAll(strings.ReplaceAll(c[1], "M", most), "N", "281474976710654"))
		if x, _ := checkSolve(start(t), a, b); (x != unsolved) != solvable(a, b) {
			t.Errorf("P12: Solve of %q and %q: x is %q", a.text(), b.text(), x)
		}
	}
}

func TestP12OfItself(t *testing.T) {
	d := start(t)
	h := d.put("3x1: 4; -6; 8")
	l := d.solve(h, h)
	if l == nil || d.show(l[0]) != "1x1: 1" || d.show(l[1]) != "0x1:" {
		t.Errorf("P12: of a column and itself Solve is %v", l)
	}
}

func TestP12SidesThatDoNotGoTogether(t *testing.T) {
	for rows := 0; rows <= 4; rows++ {
		for cols := 0; cols <= 4; cols++ {
			d := start(t)
			a, b := d.put("2x3: 1 0 0; 0 1 0"), d.put(blank(rows, cols).text())
			if rows != 2 || cols != 1 {
				d.unchanged(func() { d.refuseSolve(a, b, api.ErrShape) })
			} else if l := d.solve(a, b); l == nil || d.show(l[1]) != "1x3: 0 0 1" && d.show(l[1]) != "1x3: 0 0 -1" {
				t.Error("P12: noughts have no solution, or K is wrong")
			}
		}
	}
}

func TestP2ListsOfSolveAreTheCallers(t *testing.T) {
	d := start(t)
	g, h := d.put("1x2: 6 4"), d.put("1x1: 2")
	first := d.solve(g, h)
	second := d.solve(g, h)
	d.unchanged(func() { first[0], first[1] = -77, 0 })
	if fmt.Sprint(second) != "[4 5]" {
		t.Errorf("P2, P4: a list that was written into, and the next: %v", second)
	}
	second[0], second[1] = 0, 0
	if third := d.solve(g, h); fmt.Sprint(third) != "[6 7]" {
		t.Errorf("P2, P4: a list that was written into, then %v", third)
	}
}

// Two come out, so that there must be room for two; if there is no solution,
// nothing comes out.
func TestP5RoomForSolve(t *testing.T) {
	for held := 20; held <= 24; held++ {
		d := start(t)
		a, in, out := d.put("1x2: 6 4"), d.put("1x1: 2"), d.put("1x1: 3")
		for i := 3; i < held; i++ {
			d.put("1x1: 1")
		}
		d.unchanged(func() {
			if d.solve(a, out) != nil {
				t.Errorf("P12: %d held, Solve finds what is not there", held)
			}
		})
		if held > 22 {
			d.unchanged(func() {
				d.refuseSolve(a, in, api.ErrFull)
				d.refuseSolve(a, a, api.ErrShape)
				d.refuseSolve(a, 24, api.ErrNoHandle)
			})
			d.free(22)
			d.s.Free(23)
		}
		if l := d.solve(a, in); l == nil || l[0] != held {
			t.Errorf("P4: %d held, Solve = %v", held, l)
		}
	}
}

// P5's order in Solve, with every set of refusals that can be due at once: all
// pairs of some operands, with a store that is full, or has room for one, or
// for more.
func TestP5OrderInSolve(t *testing.T) {
	for room := 0; room <= 2; room++ {
		d := start(t)
		all := []operand{
			{d.put("1x1: 2"), 1, 1, true, false}, {d.put("1x1: 3"), 1, 1, true, false}, {d.put("2x1: 4; 6"), 2, 1, true, false}, {d.put("2x2: 2 0; 0 3"), 2, 2, true, false},
			{d.put("0x1:"), 0, 1, true, false}, {d.put("1x2: 2 2"), 1, 2, true, false}, {d.put("0x2:"), 0, 2, true, false}, {d.put("2x1: 1; 1"), 2, 1, true, false},
			{d.great(), 1, 1, true, true}, {d.tallGreat(), 2, 1, true, true},
		}
		row, one, gone := d.put("1x2: 1 "+half), d.put("1x1: "+half), d.put("1x1: 2")
		all = append(all, operand{d.times(one, row), 1, 2, true, true})
		d.free(gone)
		for _, none := range append(nowhere, gone) {
			all = append(all, operand{none, 1, 1, false, false})
		}
		last := d.fill()
		for i := 0; i < room; i++ {
			d.free(last - i)
		}
		for _, g := range all {
			for _, h := range all {
				trySolve(d, g, h, room)
			}
		}
	}
}

// trySolve: Solve on two operands, refused as is due, or not.
func trySolve(d desk, g operand, h operand, room int) {
	d.t.Helper()
	e := due(g, h, h.cols == 1 && g.rows == h.rows, false)
	want := e == api.OK && solvable(read(d.t, d.show(g.handle)), read(d.t, d.show(h.handle)))
	if want && room < 2 {
		e = api.ErrFull
	}
	if e != api.OK {
		d.unchanged(func() { d.refuseSolve(g.handle, h.handle, e) })
		return
	}
	l := d.solve(g.handle, h.handle)
	if want != (l != nil) {
		d.t.Errorf("P12: Solve(%d, %d), room for %d, = %v", g.handle, h.handle, room, l)
	}
	for _, k := range l {
		d.free(k)
	}
}

// 2^48 - 1 in amount is not too great, 2^48 is, in either operand.
func TestP5TheBoundInSolve(t *testing.T) {
	for i, c := range [][2]string{{"16777215", "16777217"}, {"-16777215", "16777217"}, {half, half}, {half, "-" + half}} {
		d := start(t)
		k := d.times(d.put("1x1: "+c[0]), d.put("1x1: "+c[1]))
		one := d.put("1x1: 1")
		if i > 1 {
			d.refuseSolve(k, one, api.ErrTooBig)
			d.refuseSolve(one, k, api.ErrTooBig)
			d.refuseSolve(k, k, api.ErrTooBig)
			continue
		}
		if l := d.solve(one, k); l == nil || d.show(l[0]) != d.show(k) {
			t.Errorf("P12: 1 times x = %q: %v", d.show(k), l)
		}
		if d.solve(k, one) != nil {
			t.Errorf("P12: %q times x = 1 has a solution", d.show(k))
		}
	}
}
