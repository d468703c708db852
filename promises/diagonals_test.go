package promises

import (
	"fmt"
	"math/big"
	"math/rand"
	"strings"
	"testing"

	"matrices/api"
)

// diagonalForms: matrices, how many classes there are, and their diagonal forms.
var diagonalForms = [][3]string{
	{"3x3: 2 4 4; -6 6 12; 10 -4 -16", "144", "3x3: 2 0 0; 0 6 0; 0 0 12"},
	{"2x2: 4 0; 0 6", "24", "2x2: 2 0; 0 12"},
	{"0x0:", "1", "0x0:"}, {"0x3:", "1", "0x3:"}, {"2x0:", "1", "2x0:"}, {"0x1:", "1", "0x1:"}, {"1x0:", "1", "1x0:"}, {"0x4:", "1", "0x4:"}, {"4x0:", "1", "4x0:"},
	{"2x2: 0 0; 0 0", "1", "2x2: 0 0; 0 0"}, {"1x1: 0", "1", "1x1: 0"}, {"4x1: 0; 0; 0; 0", "1", "4x1: 0; 0; 0; 0"}, {"1x4: 0 0 0 0", "1", "1x4: 0 0 0 0"}, {"3x2: 0 0; 0 0; 0 0", "1", "3x2: 0 0; 0 0; 0 0"},
	{"1x1: -7", "7", "1x1: 7"}, {"1x1: 7", "7", "1x1: 7"}, {"1x1: " + most, most, "1x1: " + most}, {"1x1: -" + most, most, "1x1: " + most},
	{"2x3: 2 4 6; 1 2 3", "1", "2x3: 1 0 0; 0 0 0"},
	{"3x2: 6 10; 15 0; 0 21", "3", "3x2: 1 0; 0 3; 0 0"},
	{"3x3: 1 2 3; 4 5 6; 7 8 9", "3", "3x3: 1 0 0; 0 3 0; 0 0 0"},
	{"4x4: 1 1 1 1; 1 2 4 8; 1 3 9 27; 1 4 16 64", "12", "4x4: 1 0 0 0; 0 1 0 0; 0 0 2 0; 0 0 0 6"},
	{"2x2: 281474976710655 281474976710654; 281474976710653 281474976710655", "844424930131963", "2x2: 1 0; 0 844424930131963"},
	// Rows and columns of noughts, wherever they stand.
	{"2x2: 0 0; 0 5", "5", "2x2: 5 0; 0 0"}, {"2x2: 0 -5; 0 0", "5", "2x2: 5 0; 0 0"}, {"2x2: 0 0; -5 0", "5", "2x2: 5 0; 0 0"}, {"3x3: 0 4 0; 0 0 0; 0 0 6", "24", "3x3: 2 0 0; 0 12 0; 0 0 0"}, {"2x4: 0 0 0 0; 0 0 0 -1", "1", "2x4: 1 0 0 0; 0 0 0 0"}, {"4x2: 0 0; 0 9; 0 0; 0 6", "3", "4x2: 3 0; 0 0; 0 0; 0 0"},
	// Rows and columns that hang together.
	{"2x2: 2 2; 2 2", "2", "2x2: 2 0; 0 0"}, {"2x2: 4 -6; -4 6", "2", "2x2: 2 0; 0 0"}, {"3x3: 2 4 6; 4 8 12; 3 6 9", "1", "3x3: 1 0 0; 0 0 0; 0 0 0"}, {"3x2: 2 4; 4 8; 6 12", "2", "3x2: 2 0; 0 0; 0 0"}, {"3x3: 2 0 2; 0 3 3; 2 3 5", "6", "3x3: 1 0 0; 0 6 0; 0 0 0"},
	// One row, one column.
	{"1x3: 6 10 15", "1", "1x3: 1 0 0"}, {"1x3: 0 -4 6", "2", "1x3: 2 0 0"}, {"3x1: 6; -9; 0", "3", "3x1: 3; 0; 0"},
	// A diagonal whose entries do not divide each other at first, or stand in
	// the wrong order, or below 0.
	{"2x2: 2 0; 0 3", "6", "2x2: 1 0; 0 6"}, {"2x2: 6 0; 0 3", "18", "2x2: 3 0; 0 6"}, {"2x2: -2 0; 0 -2", "4", "2x2: 2 0; 0 2"}, {"2x2: 0 0; 0 -1", "1", "2x2: 1 0; 0 0"},
	{"3x3: 6 0 0; 0 10 0; 0 0 15", "900", "3x3: 1 0 0; 0 30 0; 0 0 30"}, {"3x3: 12 0 0; 0 4 0; 0 0 6", "288", "3x3: 2 0 0; 0 12 0; 0 0 12"}, {"3x3: 2 0 0; 0 2 0; 0 0 3", "12", "3x3: 1 0 0; 0 2 0; 0 0 6"}, {"3x3: 1 0 0; 0 4 0; 0 0 6", "24", "3x3: 1 0 0; 0 2 0; 0 0 12"}, {"3x3: 0 0 4; 0 6 0; 10 0 0", "240", "3x3: 2 0 0; 0 2 0; 0 0 60"},
	{"4x4: 2 0 0 0; 0 3 0 0; 0 0 5 0; 0 0 0 7", "210", "4x4: 1 0 0 0; 0 1 0 0; 0 0 1 0; 0 0 0 210"}, {"4x4: 30 0 0 0; 0 42 0 0; 0 0 70 0; 0 0 0 105", "9261000", "4x4: 1 0 0 0; 0 210 0 0; 0 0 210 0; 0 0 0 210"}, {"4x3: 6 0 0; 0 4 0; 0 0 0; 0 0 9", "216", "4x3: 1 0 0; 0 6 0; 0 0 36; 0 0 0"}, {"3x4: 0 8 0 0; 0 0 0 0; 4 0 0 6", "16", "3x4: 2 0 0 0; 0 8 0 0; 0 0 0 0"},
	{"2x2: 2 1; 0 2", "4", "2x2: 1 0; 0 4"}, {"2x2: 2 4; 0 2", "4", "2x2: 2 0; 0 2"}, {"2x2: 4 2; 2 4", "12", "2x2: 2 0; 0 6"}, {"2x2: 4 1; 0 4", "16", "2x2: 1 0; 0 16"}, {"3x3: 0 1 0; 0 0 1; 1 0 0", "1", "3x3: 1 0 0; 0 1 0; 0 0 1"},
	// Entries just below the bound.
	{"2x2: " + most + " 0; 0 281474976710654", "79228162514263493168613818370", "2x2: 1 0; 0 79228162514263493168613818370"},
	{"2x2: " + most + " " + most + "; -" + most + " " + most, "158456325028527549287181058050", "2x2: " + most + " 0; 0 562949953421310"}, {"2x2: " + most + " " + most + "; " + most + " " + most, most, "2x2: " + most + " 0; 0 0"}, {"2x1: " + most + "; 281474976710654", "1", "2x1: 1; 0"}, {"1x4: -" + most + " 0 0 " + most, most, "1x4: " + most + " 0 0 0"},
}

// checkDiagonal: calls Diagonal on a new desk and looks at every sentence of
// P10; the diagonal form.
func checkDiagonal(d desk, text string) table {
	d.t.Helper()
	g := d.put(text)
	l := d.diagonal(g)
	if l[0] != g+1 || len(d.held()) != 6 {
		d.t.Fatalf("P4: Diagonal(%d) = %v, then held: %v", g, l, d.held())
	}
	all := []table{}
	for _, k := range l {
		all = append(all, read(d.t, d.show(k)))
	}
	a, form, u, s, v, w := read(d.t, d.show(g)), all[0], all[1], all[2], all[3], all[4]
	if a.text() != text {
		d.t.Fatalf("P10: Diagonal changed %q to %q", text, a.text())
	}
	if form.rows != a.rows || form.cols != a.cols {
		d.t.Fatalf("P10: of %q D is %q", text, form.text())
	}
	if u.rows != a.rows || u.cols != a.rows || v.rows != a.cols || v.cols != a.cols {
		d.t.Fatalf("P10: of %q U is %q, V is %q", text, u.text(), v.text())
	}
	if s.rows != a.rows || w.rows != a.cols || u.times(s).text() != unit(a.rows).text() || v.times(w).text() != unit(a.cols).text() {
		d.t.Fatalf("P10: of %q U is %q, S is %q, V is %q, T is %q", text, u.text(), s.text(), v.text(), w.text())
	}
	if got := u.times(a).times(v).text(); got != form.text() {
		d.t.Fatalf("P10: U times %q times V = %q, D is %q (U is %q, V is %q)", text, got, form.text(), u.text(), v.text())
	}
	if fault := form.diagonalFault(); fault != "" {
		d.t.Fatalf("P10: of %q D is %q: %s", text, form.text(), fault)
	}
	for _, k := range append(l, g) {
		d.free(k)
	}
	return form
}

// checkIndex: looks that Index is the product of the entries of D that are not
// 0, and what the determinants say it is, and that it changes nothing.
func checkIndex(d desk, text string, form table) string {
	d.t.Helper()
	g, n := d.put(text), ""
	d.unchanged(func() { n = d.index(g) })
	d.free(g)
	product := big.NewInt(1)
	for i := 0; i < min(form.rows, form.cols); i++ {
		if v := form.at[i][i]; v.Sign() != 0 {
			product.Mul(product, v)
		}
	}
	a := read(d.t, text)
	if want := a.divisor(a.rank()).String(); n != want || n != product.String() {
		d.t.Fatalf("P11: Index of %q = %q, want %s; D is %q", text, n, want, form.text())
	}
	return n
}

func TestP10P11Knowns(t *testing.T) {
	for _, c := range diagonalForms {
		form := checkDiagonal(start(t), c[0])
		if form.text() != c[2] {
			t.Errorf("P10: of %q D is %q, want %q", c[0], form.text(), c[2])
		}
		if n := checkIndex(start(t), c[0], form); n != c[1] {
			t.Errorf("P11: Index of %q = %q, want %q", c[0], n, c[1])
		}
	}
}

func TestP10P11AtRandom(t *testing.T) {
	source := rand.New(rand.NewSource(10))
	for i := 0; i < 1500; i++ {
		text := someTable(t, source, source.Intn(5), source.Intn(5)).text()
		checkIndex(start(t), text, checkDiagonal(start(t), text))
	}
}

// The whole of D is what the determinants say: the product of its first k
// entries divides all those of k rows and columns, and nothing greater does.
func TestP10EveryEntry(t *testing.T) {
	source := rand.New(rand.NewSource(100))
	for i := 0; i < 300; i++ {
		a := someTable(t, source, source.Intn(5), source.Intn(5))
		form := checkDiagonal(start(t), a.text())
		product := big.NewInt(1)
		for k := 1; k <= min(a.rows, a.cols); k++ {
			product.Mul(product, form.at[k-1][k-1])
			if product.Cmp(a.divisor(k)) != 0 {
				t.Fatalf("P10: of %q D is %q: the first %d entries are wrong", a.text(), form.text(), k)
			}
		}
	}
}

// Small matrices, all of them: 2x2 with entries from -3 to 3.
func TestP10AllSmall(t *testing.T) {
	for i := 0; i < 7*7*7*7; i++ {
		text := fmt.Sprintf("2x2: %d %d; %d %d", i%7-3, i/7%7-3, i/49%7-3, i/343-3)
		checkIndex(start(t), text, checkDiagonal(start(t), text))
	}
}

// Diagonals whose entries do not divide each other, with rows, columns and
// signs in any order.
func TestP10EntriesThatDoNotDivide(t *testing.T) {
	source := rand.New(rand.NewSource(1010))
	numbers := []int64{0, 1, 2, 3, 4, 6, 8, 9, 10, 12, 15, 30, 35, 36, 64, 77, 210, 1 << 20, 3 << 40, 614889782588, bound, bound - 1, 1 << 47}
	for i := 0; i < 600; i++ {
		rows, cols := 2+source.Intn(3), 2+source.Intn(3)
		a := blank(rows, cols)
		across := source.Perm(cols)
		for k, r := range source.Perm(rows) {
			if k < cols {
				sign := int64(1 - 2*source.Intn(2))
				a.at[r][across[k]].SetInt64(sign * numbers[source.Intn(len(numbers))])
			}
		}
		checkIndex(start(t), a.text(), checkDiagonal(start(t), a.text()))
	}
}

func TestP10GreatEntries(t *testing.T) {
	for _, form := range []string{
		"4x4: M M M M; M -M M -M; M M -M -M; M -M -M M", "4x4: M N M N; N M N M; -M -N -M -N; M M M M", "4x4: M N -M M; N N M -N; M M N N; -N M M M",
		"4x3: M N M; N M M; M M N; N N N", "3x4: M N M N; N M M N; M M N N", "4x1: M; N; M; -N", "1x4: M -N M N", "4x2: M N; N M; M M; N N", "2x4: M N M N; N N M -M",
		"4x4: M M M M; M M M M; M M M M; M M M M", "4x4: 0 0 0 M; 0 0 N 0; 0 -M 0 0; -N 0 0 0", "4x4: M 1 0 0; 0 M 1 0; 0 0 M 1; 0 0 0 M", "4x4: M 0 0 0; 1 N 0 0; 0 1 M 0; 0 0 1 N", "4x4: 2 0 0 0; 0 N 0 0; 0 0 3 0; 0 0 0 M",
	} {
		text := strings.ReplaceAll(strings.ReplaceAll(form, "M", most), "N", "281474976710654")
		checkIndex(start(t), text, checkDiagonal(start(t), text))
	}
}

// classes: how many classes there are, counted one by one, as the words of P11
// say: of all whole rows in a box those that are sums of fractions of a's rows,
// two being one if a spans their difference.
func classes(a table, side int64) int {
	known := []table{}
	rank := a.rank()
	steps := 1
	for c := 0; c < a.cols; c++ {
		steps *= int(2*side + 1)
	}
	for i := 0; i < steps; i++ {
		row, rest := blank(1, a.cols), int64(i)
		for c := range row.at[0] {
			row.at[0][c].SetInt64(rest%(2*side+1) - side)
			rest /= 2*side + 1
		}
		fresh := a.over(row).rank() == rank
		for k := 0; k < len(known) && fresh; k++ {
			gap := blank(1, a.cols)
			for c := range gap.at[0] {
				gap.at[0][c].Sub(row.at[0][c], known[k].at[0][c])
			}
			fresh = !a.spans(gap)
		}
		if fresh {
			known = append(known, row)
		}
	}
	return len(known)
}

func TestP11CountsClasses(t *testing.T) {
	source := rand.New(rand.NewSource(11))
	for i := 0; i < 150; i++ {
		rows, cols := source.Intn(4), source.Intn(4)
		limit := int64(3)
		if cols == 3 {
			limit = 1
		}
		a := blank(rows, cols)
		for _, row := range a.at {
			for _, v := range row {
				v.SetInt64(source.Int63n(2*limit+1) - limit)
			}
		}
		// Every class has a row in the box: it is as wide as the greatest entry
		// that D can have, or wider.
		side := []int64{1, 3, 9, 2}[cols]
		d := start(t)
		if got, want := d.index(d.put(a.text())), fmt.Sprint(classes(a, side)); got != want {
			t.Fatalf("P11: Index of %q = %q, but there are %s classes", a.text(), got, want)
		}
	}
}

func TestP10FreedOneByOne(t *testing.T) {
	d := start(t)
	g := d.put("2x3: 4 6 8; 6 4 2")
	l := d.diagonal(g)
	d.free(g)
	want := d.show(l[3])
	for _, i := range []int{0, 4, 1, 2} {
		d.free(l[i])
	}
	if d.show(l[3]) != want || len(d.held()) != 1 {
		t.Errorf("P10: V, the others freed, is %q, was %q; held: %v", d.show(l[3]), want, d.held())
	}
}

func TestP2ListsOfDiagonalAreTheCallers(t *testing.T) {
	d := start(t)
	g := d.put("2x2: 4 6; 6 4")
	first := d.diagonal(g)
	second := d.diagonal(g)
	d.unchanged(func() {
		for i := range first {
			first[i] = -77 - i
		}
	})
	if fmt.Sprint(second) != "[6 7 8 9 10]" {
		t.Errorf("P2, P4: a list that was written into, and the next: %v", second)
	}
	if d.show(1) != d.show(6) {
		t.Errorf("P10: of the same matrix D is %q, then %q", d.show(1), d.show(6))
	}
	for i := range second {
		second[i] = 0
	}
	if third := d.diagonal(g); fmt.Sprint(third) != "[11 12 13 14 15]" {
		t.Errorf("P2, P4: a list that was written into, then %v", third)
	}
}

// Five come out, so that there must be room for five; of Index nothing comes
// to be held.
func TestP5RoomForDiagonalAndIndex(t *testing.T) {
	for held := 1; held <= 24; held++ {
		d := start(t)
		for i := 0; i < held; i++ {
			d.put("1x1: -6")
		}
		d.unchanged(func() {
			if n := d.index(held / 2); n != "6" {
				t.Errorf("P11: %d held, Index = %q", held, n)
			}
		})
		if held > 19 {
			d.unchanged(func() { d.refuseDiagonal(held/2, api.ErrFull) })
			d.unchanged(func() { d.refuseDiagonal(24, api.ErrNoHandle) })
			if held < 24 && d.put("1x1: 1") != held {
				t.Errorf("P1, P4: a refused call took handles")
			}
			continue
		}
		l := d.diagonal(held / 2)
		if l[0] != held || len(d.held()) != held+5 {
			t.Errorf("P4, P10: %d held, Diagonal = %v, then held: %v", held, l, d.held())
		}
	}
}

func TestP5OrderInDiagonalAndIndex(t *testing.T) {
	for _, full := range []bool{false, true} {
		d := start(t)
		great, tall := d.great(), d.tallGreat()
		small, gone := d.put("2x2: 4 6; 6 4"), d.put("1x1: 1")
		d.free(gone)
		if full {
			d.fill()
		}
		d.unchanged(func() {
			for _, none := range append(nowhere, gone) {
				d.refuseDiagonal(none, api.ErrNoHandle)
				d.refuseIndex(none, api.ErrNoHandle)
			}
			for _, k := range []int{great, tall} {
				d.refuseDiagonal(k, api.ErrTooBig)
				d.refuseIndex(k, api.ErrTooBig)
			}
			if n := d.index(small); n != "20" {
				t.Errorf("P11: full %v, Index = %q", full, n)
			}
			if full {
				d.refuseDiagonal(small, api.ErrFull)
			}
		})
	}
}

// 2^48 - 1 in amount is not too great, 2^48 is; what comes out of Diagonal may
// be too great to be an operand.
func TestP5TheBoundInDiagonalAndIndex(t *testing.T) {
	for i, c := range [][2]string{{"16777215", "16777217"}, {"-16777215", "16777217"}, {half, half}, {half, "-" + half}} {
		d := start(t)
		k := d.times(d.put("1x1: "+c[0]), d.put("1x1: "+c[1]))
		if i > 1 {
			d.refuseDiagonal(k, api.ErrTooBig)
			d.refuseIndex(k, api.ErrTooBig)
			continue
		}
		if form, n := d.show(d.diagonal(k)[0]), d.index(k); form != "1x1: "+most || n != most {
			t.Errorf("P10, P11: of %q D is %q, Index %q", d.show(k), form, n)
		}
	}
	d := start(t)
	form := d.diagonal(d.put("2x2: " + most + " 0; 0 281474976710654"))[0]
	d.unchanged(func() {
		d.refuseDiagonal(form, api.ErrTooBig)
		d.refuseIndex(form, api.ErrTooBig)
	})
}
