package promises

import (
	"fmt"
	"math/big"
	"math/rand"
	"strings"
	"testing"

	"matrices/api"
)

func TestP6Products(t *testing.T) {
	d := start(t)
	for _, c := range [][3]string{
		{"2x2: 1 2; 3 4", "2x2: 0 1; 1 0", "2x2: 2 1; 4 3"},
		{"2x2: 0 1; 1 0", "2x2: 1 2; 3 4", "2x2: 3 4; 1 2"},
		{"1x3: 1 2 3", "3x1: 4; 5; 6", "1x1: 32"},
		{"3x1: 1; 2; 3", "1x2: 4 -5", "3x2: 4 -5; 8 -10; 12 -15"},
		{"2x3: 1 2 3; 4 5 6", "3x2: 1 0; 0 1; 1 1", "2x2: 4 5; 10 11"},
		{"1x2: 5 -5", "2x1: 7; 7", "1x1: 0"},
		{"1x1: -3", "1x1: 0", "1x1: 0"},
		{"2x0:", "0x3:", "2x3: 0 0 0; 0 0 0"}, {"4x0:", "0x4:", "4x4: 0 0 0 0; 0 0 0 0; 0 0 0 0; 0 0 0 0"}, {"1x0:", "0x1:", "1x1: 0"},
		{"0x2:", "2x3: 1 2 3; 4 5 6", "0x3:"}, {"2x3: 1 2 3; 4 5 6", "3x0:", "2x0:"}, {"0x3:", "3x0:", "0x0:"},
		{"0x0:", "0x0:", "0x0:"}, {"0x0:", "0x4:", "0x4:"}, {"4x0:", "0x0:", "4x0:"},
		{"1x1: " + most, "1x1: -" + most, "1x1: -79228162514263774643590529025"},
		{"1x2: " + most + " 1", "2x1: " + most + "; -1", "1x1: 79228162514263774643590529024"},
		{"1x4: " + strings.Repeat(most+" ", 3) + most, "4x1: " + strings.Repeat(most+"; ", 3) + most, "1x1: 316912650057055098574362116100"},
		{"1x2: " + most + " -" + most, "2x1: " + most + "; " + most, "1x1: 0"},
	} {
		g, h := d.put(c[0]), d.put(c[1])
		k := d.times(g, h)
		if got := d.show(k); got != c[2] {
			t.Errorf("P6: %q times %q = %q, want %q", c[0], c[1], got, c[2])
		}
		if d.show(g) != c[0] || d.show(h) != c[1] {
			t.Errorf("P6: Times changed %q or %q", c[0], c[1])
		}
		d.free(g)
		d.free(h)
		d.free(k)
	}
}

func TestP6SidesThatDoNotGoTogether(t *testing.T) {
	for rows := 0; rows <= 4; rows++ {
		for cols := 0; cols <= 4; cols++ {
			d := start(t)
			g := d.put(write(2, rows, anyMatrix(rand.New(rand.NewSource(1)), 2, rows)))
			h := d.put(write(cols, 3, anyMatrix(rand.New(rand.NewSource(2)), cols, 3)))
			if rows != cols {
				d.refuseTimes(g, h, api.ErrShape)
				continue
			}
			if got := d.show(d.times(g, h)); !strings.HasPrefix(got, "2x3: ") {
				t.Errorf("P6: 2x%d times %dx3 = %q", rows, cols, got)
			}
		}
	}
}

func TestP6SquareOfAMatrix(t *testing.T) {
	d := start(t)
	h := d.put("2x2: 1 1; 1 0")
	k := d.times(h, h)
	d.free(h)
	if got := d.show(k); got != "2x2: 2 1; 1 1" {
		t.Errorf("P6: the square, its root freed, = %q", got)
	}
}

func TestP6ProductsAtRandom(t *testing.T) {
	source := rand.New(rand.NewSource(6))
	d := start(t)
	for i := 0; i < 3000; i++ {
		rows, mid, cols := source.Intn(5), source.Intn(5), source.Intn(5)
		a, b := anyMatrix(source, rows, mid), anyMatrix(source, mid, cols)
		g, h := d.put(write(rows, mid, a)), d.put(write(mid, cols, b))
		k := d.times(g, h)
		if got, want := d.show(k), product(rows, cols, a, b); got != want {
			t.Fatalf("P6: %q times %q = %q, want %q", d.show(g), d.show(h), got, want)
		}
		d.free(g)
		d.free(h)
		d.free(k)
	}
}

// product: as text, reckoned without the program.
func product(rows int, cols int, a [][]int64, b [][]int64) string {
	lines := []string{}
	for r := 0; r < rows && cols > 0; r++ {
		line := ""
		for c := 0; c < cols; c++ {
			sum := big.NewInt(0)
			for i := range b {
				sum.Add(sum, new(big.Int).Mul(big.NewInt(a[r][i]), big.NewInt(b[i][c])))
			}
			line += " " + sum.String()
		}
		lines = append(lines, line)
	}
	return fmt.Sprintf("%dx%d:%s", rows, cols, strings.Join(lines, ";"))
}

// known: a matrix, its rank, its determinant ("": it is not square).
var knowns = [][3]string{
	{"3x3: 2 4 4; -6 6 12; 10 -4 -16", "3", "-144"},
	{"2x2: 4 0; 0 6", "2", "24"},
	{"0x0:", "0", "1"}, {"0x3:", "0", ""}, {"2x0:", "0", ""}, {"0x4:", "0", ""}, {"4x0:", "0", ""},
	{"2x2: 0 0; 0 0", "0", "0"}, {"1x1: 0", "0", "0"}, {"1x1: 1", "1", "1"}, {"1x1: -7", "1", "-7"},
	{"1x1: " + most, "1", most}, {"1x1: -" + most, "1", "-" + most},
	{"2x3: 2 4 6; 1 2 3", "1", ""},
	{"3x2: 6 10; 15 0; 0 21", "2", ""},
	{"3x3: 1 2 3; 4 5 6; 7 8 9", "2", "0"},
	{"4x4: 1 1 1 1; 1 2 4 8; 1 3 9 27; 1 4 16 64", "4", "12"},
	{"2x2: 281474976710655 281474976710654; 281474976710653 281474976710655", "2", "844424930131963"},
	{"2x2: 0 1; 1 0", "2", "-1"}, {"3x3: 0 1 0; 0 0 1; 1 0 0", "3", "1"}, {"4x4: 0 0 0 1; 0 0 1 0; 0 1 0 0; 1 0 0 0", "4", "1"}, {"4x4: 0 1 0 0; 0 0 1 0; 0 0 0 1; 1 0 0 0", "4", "-1"},
	{"2x2: 0 5; 0 7", "1", "0"}, {"3x3: 0 0 0; 0 0 0; 0 0 1", "1", "0"}, {"3x4: 0 0 0 1; 0 0 0 2; 0 3 0 0", "2", ""}, {"4x2: 0 0; 0 3; 0 5; 2 0", "2", ""},
	{"1x4: 0 0 0 0", "0", ""}, {"4x1: 0; 0; 0; 0", "0", ""}, {"1x4: 0 0 0 1", "1", ""}, {"4x1: 0; 0; 0; 1", "1", ""},
	{"2x2: " + most + " " + most + "; " + most + " " + most, "1", "0"},
	{"2x2: " + most + " -" + most + "; " + most + " " + most, "2", "158456325028527549287181058050"},
	// Rows in the ratio of 2 to 3, but for one at the far end.
	{"2x4: 2 4 6 8; 3 6 9 12", "1", ""}, {"2x4: 2 4 6 8; 3 6 9 13", "2", ""},
}

func TestP7Knowns(t *testing.T) {
	d := start(t)
	for _, k := range knowns {
		h := d.put(k[0])
		if r, e := d.s.Rank(h); fmt.Sprint(r) != k[1] || e != api.OK {
			t.Errorf("P7: Rank of %q = %d, %d, want %s", k[0], r, e, k[1])
		}
		if k[2] == "" {
			d.refuseDet(h, api.ErrShape)
		} else if text, e := d.s.Det(h); text != k[2] || e != api.OK {
			t.Errorf("P7: Det of %q = %q, %d, want %s", k[0], text, e, k[2])
		}
		if got := d.show(h); got != k[0] {
			t.Errorf("P7: Rank or Det changed %q to %q", k[0], got)
		}
		d.free(h)
	}
}

// The greatest determinant that can come out, 16 times most^4 (a matrix of
// Hadamard's), is beyond 64 and 128 bits.
func TestP7GreatDet(t *testing.T) {
	d := start(t)
	h := d.put(strings.ReplaceAll("4x4: M M M M; M -M M -M; M M -M -M; M -M -M M", "M", most))
	want := new(big.Int).Exp(big.NewInt(bound), big.NewInt(4), nil)
	want.Mul(want, big.NewInt(16))
	if text, e := d.s.Det(h); text != want.String() || e != api.OK {
		t.Errorf("P7: Det = %q, %d, want %s", text, e, want)
	}
}

func TestP7AtRandom(t *testing.T) {
	source := rand.New(rand.NewSource(7))
	d := start(t)
	seen := [5]int{}
	for i := 0; i < 4000; i++ {
		rows, cols := source.Intn(5), source.Intn(5)
		if i%2 == 0 {
			cols = rows
		}
		m := anyMatrix(source, rows, cols)
		h := d.put(write(rows, cols, m))
		rank, det := byFractions(m, cols)
		seen[rank]++
		if r, e := d.s.Rank(h); r != rank || e != api.OK {
			t.Fatalf("P7: Rank of %q = %d, %d, want %d", d.show(h), r, e, rank)
		}
		if rows != cols {
			d.refuseDet(h, api.ErrShape)
		} else if text, e := d.s.Det(h); text != det || e != api.OK {
			t.Fatalf("P7: Det of %q = %q, %d, want %s", d.show(h), text, e, det)
		}
		d.free(h)
	}
	for rank, n := range seen {
		if n < 100 {
			t.Errorf("the test is wrong: it tried %d matrices of rank %d", n, rank)
		}
	}
}

// byFractions: rank and determinant by clearing columns with fractions. (The
// determinant is of no meaning where the matrix is not square.)
func byFractions(m [][]int64, cols int) (int, string) {
	rows := make([][]*big.Rat, len(m))
	for r := range m {
		for _, v := range m[r] {
			rows[r] = append(rows[r], big.NewRat(v, 1))
		}
	}
	det := big.NewRat(1, 1)
	rank := 0
	for c := 0; c < cols; c++ {
		found := rank
		for found < len(rows) && rows[found][c].Sign() == 0 {
			found++
		}
		if found == len(rows) {
			det.SetInt64(0)
			continue
		}
		if found != rank {
			rows[found], rows[rank] = rows[rank], rows[found]
			det.Neg(det)
		}
		det.Mul(det, rows[rank][c])
		for _, row := range rows[rank+1:] {
			share := new(big.Rat).Quo(row[c], rows[rank][c])
			for i := range row {
				row[i] = new(big.Rat).Sub(row[i], new(big.Rat).Mul(share, rows[rank][i]))
			}
		}
		rank++
	}
	return rank, det.Num().String()
}
