package promises

import (
	"fmt"
	"math/big"
	"math/rand"
	"strings"
	"testing"

	"matrices/api"
)

// rowForms: matrices and their row forms.
var rowForms = [][2]string{
	{"3x3: 2 4 4; -6 6 12; 10 -4 -16", "3x3: 2 4 4; 0 6 0; 0 0 12"},
	{"2x2: 4 0; 0 6", "2x2: 4 0; 0 6"},
	{"0x0:", "0x0:"}, {"0x3:", "0x3:"}, {"2x0:", "2x0:"}, {"0x4:", "0x4:"}, {"4x0:", "4x0:"}, {"1x0:", "1x0:"}, {"0x1:", "0x1:"},
	{"2x2: 0 0; 0 0", "2x2: 0 0; 0 0"}, {"1x1: 0", "1x1: 0"}, {"4x1: 0; 0; 0; 0", "4x1: 0; 0; 0; 0"}, {"1x4: 0 0 0 0", "1x4: 0 0 0 0"},
	{"1x1: -7", "1x1: 7"}, {"1x1: 7", "1x1: 7"}, {"1x1: " + most, "1x1: " + most}, {"1x1: -" + most, "1x1: " + most},
	{"2x3: 2 4 6; 1 2 3", "2x3: 1 2 3; 0 0 0"},
	{"3x2: 6 10; 15 0; 0 21", "3x2: 3 0; 0 1; 0 0"},
	{"3x3: 1 2 3; 4 5 6; 7 8 9", "3x3: 1 2 3; 0 3 6; 0 0 0"},
	// Rows of noughts stand last, wherever they came from.
	{"2x2: 0 0; 1 2", "2x2: 1 2; 0 0"}, {"4x2: 0 0; 0 3; 0 0; 2 0", "4x2: 2 0; 0 3; 0 0; 0 0"}, {"3x1: 5; 5; -5", "3x1: 5; 0; 0"},
	// Pivots are above 0; the rest of a row keeps the signs that follow.
	{"1x3: -2 -3 4", "1x3: 2 3 -4"}, {"2x2: -3 0; 0 -5", "2x2: 3 0; 0 5"}, {"2x3: 0 -1 5; 0 0 -2", "2x3: 0 1 1; 0 0 2"},
	// Pivots leap over columns.
	{"2x4: 0 0 5 1; 0 3 0 0", "2x4: 0 3 0 0; 0 0 5 1"}, {"3x4: 0 0 0 4; 0 0 0 6; 0 0 0 9", "3x4: 0 0 0 1; 0 0 0 0; 0 0 0 0"}, {"1x4: 0 0 0 -1", "1x4: 0 0 0 1"},
	// Above a pivot stands what is 0 or more, and less than it.
	{"2x2: 1 7; 0 5", "2x2: 1 2; 0 5"}, {"2x2: 1 -7; 0 5", "2x2: 1 3; 0 5"}, {"2x2: 1 5; 0 5", "2x2: 1 0; 0 5"}, {"2x2: 1 -5; 0 5", "2x2: 1 0; 0 5"}, {"2x2: 1 4; 0 5", "2x2: 1 4; 0 5"}, {"2x2: 1 -1; 0 5", "2x2: 1 4; 0 5"},
	{"3x3: 1 1 100; 0 1 -100; 0 0 7", "3x3: 1 0 4; 0 1 5; 0 0 7"}, {"2x3: 1 9 -9; 0 0 4", "2x3: 1 9 3; 0 0 4"},
	// Entries just below the bound.
	{"2x1: " + most + "; 281474976710654", "2x1: 1; 0"}, {"2x2: " + most + " " + most + "; -" + most + " -" + most, "2x2: " + most + " " + most + "; 0 0"},
	{"2x2: 1 " + most + "; 0 2", "2x2: 1 1; 0 2"}, {"2x2: 1 -" + most + "; 0 " + most, "2x2: 1 0; 0 " + most}, {"2x2: 0 -" + most + "; -" + most + " 0", "2x2: " + most + " 0; 0 " + most},
	{"2x2: 281474976710655 281474976710654; 281474976710653 281474976710655", "2x2: 1 422212465065981; 0 844424930131963"},
	{"2x2: 2 1; 0 2", "2x2: 2 1; 0 2"}, {"2x2: 5 7; 3 4", "2x2: 1 0; 0 1"}, {"4x1: 6; 10; 15; 0", "4x1: 1; 0; 0; 0"},
}

// checkEchelon: calls Echelon and looks at every sentence of P8; the row form.
func checkEchelon(d desk, text string) string {
	d.t.Helper()
	g := d.put(text)
	l := d.echelon(g)
	a := read(d.t, d.show(g))
	h, u, w := read(d.t, d.show(l[0])), read(d.t, d.show(l[1])), read(d.t, d.show(l[2]))
	if a.text() != text {
		d.t.Fatalf("P8: Echelon changed %q to %q", text, a.text())
	}
	if h.rows != a.rows || h.cols != a.cols {
		d.t.Fatalf("P8: of %q H is %q", text, h.text())
	}
	if u.rows != a.rows || u.cols != a.rows || w.rows != a.rows || w.cols != a.rows {
		d.t.Fatalf("P8: of %q U is %q, W is %q", text, u.text(), w.text())
	}
	if got := u.times(a).text(); got != h.text() {
		d.t.Fatalf("P8: U times %q = %q, H is %q (U is %q)", text, got, h.text(), u.text())
	}
	if got := u.times(w).text(); got != unit(a.rows).text() {
		d.t.Fatalf("P8: of %q U is %q, W is %q, U times W is %q", text, u.text(), w.text(), got)
	}
	if fault := h.fault(false); fault != "" {
		d.t.Fatalf("P8: of %q H is %q: %s", text, h.text(), fault)
	}
	for _, k := range append(l, g) {
		d.free(k)
	}
	return h.text()
}

func TestP8Knowns(t *testing.T) {
	d := start(t)
	for _, c := range rowForms {
		if got := checkEchelon(d, c[0]); got != c[1] {
			t.Errorf("P8: of %q H is %q, want %q", c[0], got, c[1])
		}
	}
	checkEchelon(d, "4x4: 1 1 1 1; 1 2 4 8; 1 3 9 27; 1 4 16 64")
}

func TestP8AtRandom(t *testing.T) {
	source := rand.New(rand.NewSource(8))
	d := start(t)
	for i := 0; i < 3000; i++ {
		rows, cols := source.Intn(5), source.Intn(5)
		checkEchelon(d, write(rows, cols, anyMatrix(source, rows, cols)))
	}
}

// Rows that hang together, with entries up to the bound: products of thin
// matrices.
func TestP8RowsThatHangTogether(t *testing.T) {
	source := rand.New(rand.NewSource(88))
	d := start(t)
	for i := 0; i < 1000; i++ {
		rows, cols := 1+source.Intn(4), 1+source.Intn(4)
		a := thin(source, rows, 1+source.Intn(2), cols)
		checkEchelon(d, a.text())
	}
}

// thin: a matrix of no greater a rank than mid (1 or 2), its entries in bounds.
func thin(source *rand.Rand, rows int, mid int, cols int) table {
	limit := []int64{2, 30, 1 << 12, 11000000}[source.Intn(4)]
	left, right := blank(rows, mid), blank(mid, cols)
	for _, row := range append(left.at, right.at...) {
		for _, v := range row {
			v.SetInt64(source.Int63n(2*limit+1) - limit)
		}
	}
	return left.times(right)
}

// Small matrices, all of them: 2x2 with entries from -3 to 3.
func TestP8AllSmall(t *testing.T) {
	d := start(t)
	for i := 0; i < 7*7*7*7; i++ {
		checkEchelon(d, fmt.Sprintf("2x2: %d %d; %d %d", i%7-3, i/7%7-3, i/49%7-3, i/343-3))
	}
}

func TestP8GreatEntries(t *testing.T) {
	d := start(t)
	near := "281474976710654"
	for _, form := range []string{
		"4x4: M M M M; M -M M -M; M M -M -M; M -M -M M",
		"4x4: M N M N; N M N M; -M -N -M -N; M M M M",
		"4x4: M N -M M; N N M -N; M M N N; -N M M M",
		"4x3: M N M; N M M; M M N; N N N", "3x4: M N M N; N M M N; M M N N",
		"4x1: M; N; M; -N", "1x4: M -N M N", "4x2: M N; N M; M M; N N",
		"4x4: M M M M; M M M M; M M M M; M M M M", "4x4: 0 0 0 M; 0 0 N 0; 0 -M 0 0; -N 0 0 0",
	} {
		checkEchelon(d, strings.ReplaceAll(strings.ReplaceAll(form, "M", most), "N", near))
	}
}

// H is too great an operand, if an entry is: Echelon of it is refused.
func TestP8OfARowForm(t *testing.T) {
	d := start(t)
	small := d.echelon(d.put("2x2: 1 2; 3 4"))
	if got := d.show(d.echelon(small[0])[0]); got != d.show(small[0]) {
		t.Errorf("P8: of a row form, %q, H is %q", d.show(small[0]), got)
	}
	great := d.echelon(d.put("2x2: 281474976710655 281474976710654; 281474976710653 281474976710655"))
	d.unchanged(func() { d.refuseEchelon(great[0], api.ErrTooBig) })
}

func TestP8FreedOneByOne(t *testing.T) {
	d := start(t)
	g := d.put("2x2: 4 6; 6 4")
	l := d.echelon(g)
	d.free(g)
	want := d.show(l[1])
	d.free(l[0])
	d.free(l[2])
	if d.show(l[1]) != want {
		t.Errorf("P8: U, the others freed, is %q, was %q", d.show(l[1]), want)
	}
	if got := fmt.Sprint(len(d.held())); got != "1" {
		t.Errorf("P4: %s are held, want 1", got)
	}
}

func TestP2ListsAreTheCallers(t *testing.T) {
	d := start(t)
	g := d.put("2x2: 4 6; 6 4")
	first := d.echelon(g)
	kept := append([]int{}, first...)
	second := d.echelon(g)
	d.unchanged(func() {
		for i := range first {
			first[i] = -77 - i
		}
	})
	for i, k := range kept {
		if k != i+1 || second[i] != i+4 {
			t.Fatalf("P2, P4: the lists %v and %v", kept, second)
		}
	}
	if d.show(kept[0]) != d.show(second[0]) {
		t.Errorf("P8: of the same matrix H is %q, then %q", d.show(kept[0]), d.show(second[0]))
	}
	second[0], second[1], second[2] = 0, 0, 0
	if third := d.echelon(g); third[0] != 7 || third[1] != 8 || third[2] != 9 {
		t.Errorf("P2, P4: a list that was written into, then %v", third)
	}
}

// Three come out, so that there must be room for three.
func TestP5RoomForEchelon(t *testing.T) {
	for held := 1; held <= 24; held++ {
		d := start(t)
		for i := 0; i < held; i++ {
			d.put("1x1: -6")
		}
		if held > 21 {
			d.unchanged(func() { d.refuseEchelon(held/2, api.ErrFull) })
			d.unchanged(func() { d.refuseEchelon(24, api.ErrNoHandle) })
			if held < 24 && d.put("1x1: 1") != held {
				t.Errorf("P1, P4: a refused call took handles")
			}
			continue
		}
		l := d.echelon(held / 2)
		if l[0] != held || len(d.held()) != held+3 {
			t.Errorf("P4, P8: %d held, Echelon = %v, then held: %v", held, l, d.held())
		}
	}
}

func TestP5OrderInEchelon(t *testing.T) {
	for _, full := range []bool{false, true} {
		d := start(t)
		great, tall := d.great(), d.tallGreat()
		small := d.put("2x2: 4 6; 6 4")
		if full {
			d.fill()
		}
		d.unchanged(func() {
			for _, none := range nowhere {
				d.refuseEchelon(none, api.ErrNoHandle)
			}
			d.refuseEchelon(great, api.ErrTooBig)
			d.refuseEchelon(tall, api.ErrTooBig)
			if full {
				d.refuseEchelon(small, api.ErrFull)
			}
		})
	}
}

// 2^48 - 1 in amount is not too great, 2^48 is.
func TestP5TheBoundInEchelon(t *testing.T) {
	d := start(t)
	for i, c := range [][2]string{{"16777215", "16777217"}, {"-16777215", "16777217"}, {half, half}, {half, "-" + half}} {
		k := d.times(d.put("1x1: "+c[0]), d.put("1x1: "+c[1]))
		if i > 1 {
			d.refuseEchelon(k, api.ErrTooBig)
			continue
		}
		if got := d.show(d.echelon(k)[0]); got != "1x1: "+most {
			t.Errorf("P8: of %q H is %q", d.show(k), got)
		}
	}
}

// What comes out may be far beyond 64 bits: the last pivot here is the whole
// determinant.
func TestP5WhatComesOutMayBeGreat(t *testing.T) {
	d := start(t)
	got := read(t, checkEchelon(d, strings.ReplaceAll("4x4: M 1 0 0; 0 M 1 0; 0 0 M 1; 11 0 0 M", "M", most)))
	want := new(big.Int).Exp(big.NewInt(bound), big.NewInt(4), nil)
	want.Sub(want, big.NewInt(11))
	if got.at[3][3].Cmp(want) != 0 {
		t.Errorf("P8: the last pivot is %s, want %s", got.at[3][3], want)
	}
}
