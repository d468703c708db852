package promises

import (
	"fmt"
	"math/big"
	"math/rand"
	"sort"
	"strings"
	"testing"

	"matrices/api"
)

// shortRows: matrices, and the rows that R must have, but for their order and
// their signs ("": not told here). They are told where no others are short.
var shortRows = [][2]string{
	{"2x2: 1 0; 100 1", "2x2: 1 0; 0 1"}, {"2x2: 100 1; 1 0", "2x2: 1 0; 0 1"}, {"2x2: 1 -100; 0 -1", "2x2: 1 0; 0 1"}, {"2x2: 5 7; 3 4", "2x2: 1 0; 0 1"}, {"2x2: 201 37; 1648 297", "2x2: 1 32; 40 1"},
	{"3x3: 1 1 1; -1 0 2; 3 5 6", ""}, {"3x3: 1 2 3; 4 5 6; 7 8 9", "2x3: 1 -1 -3; 2 1 0"}, {"4x4: 1 0 0 1345; 0 1 0 35; 0 0 1 154; 0 0 0 2000", ""}, {"2x2: 281474976710655 281474976710654; 281474976710653 281474976710655", ""},
	// No rows, no columns, rows of noughts.
	{"0x0:", "0x0:"}, {"0x1:", "0x1:"}, {"0x3:", "0x3:"}, {"0x4:", "0x4:"}, {"1x0:", "0x0:"}, {"2x0:", "0x0:"}, {"4x0:", "0x0:"},
	{"1x1: 0", "0x1:"}, {"2x2: 0 0; 0 0", "0x2:"}, {"4x1: 0; 0; 0; 0", "0x1:"}, {"1x4: 0 0 0 0", "0x4:"}, {"4x4: 0 0 0 0; 0 0 0 0; 0 0 0 0; 0 0 0 0", "0x4:"},
	{"2x2: 0 0; 3 4", "1x2: 3 4"}, {"2x2: 3 4; 0 0", "1x2: 3 4"}, {"4x2: 0 0; 0 3; 0 0; 2 0", "2x2: 2 0; 0 3"}, {"4x4: 0 0 0 0; 0 0 0 -6; 0 0 0 0; 0 0 0 4", "1x4: 0 0 0 2"}, {"4x3: 0 0 0; 1 0 0; 0 0 0; 100 1 0", "2x3: 1 0 0; 0 1 0"},
	// One row, one column.
	{"1x1: -7", "1x1: 7"}, {"1x1: 7", "1x1: 7"}, {"1x4: 6 -4 0 2", "1x4: 6 -4 0 2"}, {"4x1: 6; 10; 15; 21", "1x1: 1"}, {"2x1: 6; 10", "1x1: 2"}, {"3x1: -6; 9; 0", "1x1: 3"}, {"1x1: -" + most, "1x1: " + most}, {"2x1: " + most + "; 281474976710654", "1x1: 1"}, {"2x1: " + most + "; -" + most, "1x1: " + most}, {"1x2: -" + most + " " + most, "1x2: " + most + " -" + most},
	// Rows that hang together, more rows than columns.
	{"2x3: 2 4 6; 1 2 3", "1x3: 1 2 3"}, {"2x3: 4 8 12; 6 12 18", "1x3: 2 4 6"}, {"2x2: 3 -4; -3 4", "1x2: 3 -4"}, {"3x2: 6 10; 15 0; 0 21", "2x2: 3 0; 0 1"}, {"4x3: 1 2 3; 2 4 6; 0 0 5; 1 2 8", "2x3: 1 2 -2; 1 2 3"},
	{"3x2: 1 0; 0 1; " + most + " -" + most, "2x2: 1 0; 0 1"}, {"3x2: " + most + " -" + most + "; 1 0; 0 1", "2x2: 1 0; 0 1"}, {"4x2: 4 0; 0 4; 6 0; 0 6", "2x2: 2 0; 0 2"}, {"4x4: 2 0 0 0; 3 0 0 0; 0 5 0 0; 0 7 0 0", "2x4: 1 0 0 0; 0 1 0 0"}, {"4x4: 1 1 0 0; 1 1 0 0; 0 0 1 1; 1 1 1 1", "2x4: 1 1 0 0; 0 0 1 1"}, {"4x3: 1 0 0; 0 1 0; 1 1 0; 1 -1 0", "2x3: 1 0 0; 0 1 0"},
	// Rows that must change their order: the longer one stands behind.
	{"2x2: 3 0; 0 1", "2x2: 3 0; 0 1"}, {"3x3: 9 0 0; 0 3 0; 0 0 1", "3x3: 9 0 0; 0 3 0; 0 0 1"}, {"4x4: 64 0 0 0; 0 16 0 0; 0 0 4 0; 0 0 0 1", "4x4: 64 0 0 0; 0 16 0 0; 0 0 4 0; 0 0 0 1"}, {"2x2: " + most + " 0; 0 1", "2x2: " + most + " 0; 0 1"},
	// All whole rows are spanned: the rows must be those of a unit matrix.
	{"3x3: 1 M 0; 0 1 M; 0 0 1", "3x3: 1 0 0; 0 1 0; 0 0 1"}, {"4x4: 1 M M M; 0 1 M M; 0 0 1 M; 0 0 0 1", "4x4: 1 0 0 0; 0 1 0 0; 0 0 1 0; 0 0 0 1"}, {"4x4: 1 0 0 0; M -1 0 0; -M M 1 0; M -M M -1", "4x4: 1 0 0 0; 0 1 0 0; 0 0 1 0; 0 0 0 1"},
}

// signless: the rows, each turned so that its first entry that is not 0 is above
// 0, in one order.
func signless(a table) string {
	lines := []string{}
	for _, row := range a.at {
		sign := 0
		line := ""
		for _, v := range row {
			if sign == 0 {
				sign = v.Sign()
			}
			line += " " + new(big.Int).Mul(v, big.NewInt(int64(sign))).String()
		}
		lines = append(lines, line)
	}
	sort.Strings(lines)
	return fmt.Sprintf("%dx%d:%s", a.rows, a.cols, strings.Join(lines, ";"))
}

// checkReduce: calls Reduce on a new desk and looks at every sentence of P13; R
// and T.
func checkReduce(d desk, text string) (table, table) {
	d.t.Helper()
	g := d.put(text)
	l := d.reduce(g)
	if l[0] != g+1 || len(d.held()) != 3 {
		d.t.Fatalf("P4: Reduce(%d) = %v, then held: %v", g, l, d.held())
	}
	a, r, w := read(d.t, d.show(g)), read(d.t, d.show(l[0])), read(d.t, d.show(l[1]))
	if a.text() != text {
		d.t.Fatalf("P13: Reduce changed %q to %q", text, a.text())
	}
	if w.rows != r.rows || w.cols != a.rows || r.cols != a.cols {
		d.t.Fatalf("P13: of %q R is %q, T is %q", text, r.text(), w.text())
	}
	if got := w.times(a).text(); got != r.text() {
		d.t.Fatalf("P13: T times %q = %q, R is %q (T is %q)", text, got, r.text(), w.text())
	}
	if r.rank() != r.rows {
		d.t.Fatalf("P13: of %q R is %q: its rows hang together", text, r.text())
	}
	if !a.spans(r) || !r.spans(a) {
		d.t.Fatalf("P13: of %q R is %q, which spans something else", text, r.text())
	}
	if fault := r.shortFault(); fault != "" {
		d.t.Fatalf("P13: of %q R is %q: %s", text, r.text(), fault)
	}
	for _, k := range append(l, g) {
		d.free(k)
	}
	return r, w
}

// greatText: M and N stand for the greatest entries.
func greatText(form string) string {
	return strings.ReplaceAll(strings.ReplaceAll(form, "M", most), "N", "281474976710654")
}

// The other tests are worth no more than what looks at the rows for them.
func TestShortFault(t *testing.T) {
	for _, c := range []struct {
		text  string
		short bool
	}{
		{"0x0:", true}, {"0x3:", true}, {"1x1: -7", true}, {"1x3: 0 0 5", true}, {"2x2: 1 0; 0 1", true}, {"2x2: 1 0; 100 1", false}, {"1x2: 0 0", false}, {"1x0:", false}, {"2x2: 1 1; 0 0", false}, {"3x2: 1 0; 0 1; 0 0", false},
		// m is just 1/2 or -1/2, or just beyond.
		{"2x2: 2 0; 1 5", true}, {"2x2: 2 0; -1 5", true}, {"2x2: 2 0; 2 5", false}, {"2x2: 2 0; -2 5", false}, {"2x2: 1000 0; 500 999", true}, {"2x2: 1000 0; 501 999", false}, {"2x2: 1000 0; -500 999", true}, {"2x2: 1000 0; -501 999", false},
		{"3x3: 2 0 0; 0 2 0; 1 1 2", true}, {"3x3: 2 0 0; 0 2 0; 2 1 2", false}, {"3x3: 2 0 0; 0 2 0; 1 -2 2", false}, {"3x3: 2 0 0; 1 2 0; 1 -1 3", true}, {"3x3: 2 0 0; 1 2 0; -2 -1 3", false},
		// r* . r* is just long enough, or just too short, with m 0, 1/2 and -1/2.
		{"2x4: 2 0 0 0; 0 1 1 1", true}, {"2x4: 2 0 0 0; 0 1 1 0", false}, {"2x3: 2 0 0; 1 1 1", true}, {"2x3: 2 0 0; 1 0 1", false}, {"2x3: 2 0 0; -1 1 1", true}, {"2x2: 2 0; 0 1", false}, {"2x2: 100 0; 0 87", true}, {"2x2: 100 0; 0 86", false}, {"2x2: 100 0; 50 71", true}, {"2x2: 100 0; 50 70", false}, {"2x2: 100 0; -50 70", false},
		{"3x3: 1 0 0; 0 100 0; 0 0 86", false}, {"3x3: 1 0 0; 0 100 0; 0 0 87", true},
	} {
		if fault := read(t, c.text).shortFault(); (fault == "") != c.short {
			t.Errorf("the test is wrong: %q is short: %v (%s)", c.text, !c.short, fault)
		}
	}
}

func TestP13Knowns(t *testing.T) {
	for _, c := range shortRows {
		r, _ := checkReduce(start(t), greatText(c[0]))
		if want := c[1]; want != "" && signless(r) != signless(read(t, want)) {
			t.Errorf("P13: of %q R is %q, want the rows of %q", c[0], r.text(), want)
		}
	}
}

func TestP13AtRandom(t *testing.T) {
	source := rand.New(rand.NewSource(13))
	seen := [5]int{}
	for i := 0; i < 1500; i++ {
		a := someTable(t, source, max(source.Intn(5), source.Intn(5)), max(source.Intn(5), source.Intn(5)))
		r, _ := checkReduce(start(t), a.text())
		if r.rows != a.rank() {
			t.Fatalf("P13: of %q R is %q", a.text(), r.text())
		}
		seen[r.rows]++
	}
	for rank, n := range seen {
		if n < 50 {
			t.Errorf("the test is wrong: it tried %d matrices of rank %d", n, rank)
		}
	}
}

// Rows that are long by far, though what they span has short ones: many steps
// are needed.
func TestP13LongRows(t *testing.T) {
	source := rand.New(rand.NewSource(1313))
	for i := 0; i < 300; i++ {
		rows, cols := 1+source.Intn(4), 1+source.Intn(4)
		a := blank(rows, cols)
		for r := range a.at {
			for c, v := range a.at[r] {
				switch {
				case r == c:
					v.SetInt64(source.Int63n(3) + 1)
				case c == cols-1 || c > r && i%2 == 0:
					v.SetInt64(source.Int63n(2*bound+1) - bound)
				}
			}
		}
		checkReduce(start(t), a.text())
	}
}

// Steps with rows of a unit matrix lead far away from it; what is spanned stays
// all whole rows, and their only short rows are those of the unit matrix.
func TestP13AllWholeRows(t *testing.T) {
	source := rand.New(rand.NewSource(131))
	for i := 0; i < 200; i++ {
		side := 1 + i%4
		a := unit(side)
		for next := a; next.fits(); next = mixedByUnits(source, a) {
			a = next
			if side == 1 {
				break
			}
		}
		if r, _ := checkReduce(start(t), a.text()); signless(r) != signless(unit(side)) {
			t.Fatalf("P13: of %q R is %q", a.text(), r.text())
		}
	}
}

// mixedByUnits: a row of a is taken to another one, some times.
func mixedByUnits(source *rand.Rand, a table) table {
	step := unit(a.rows)
	order := source.Perm(a.rows)
	step.at[order[0]][order[1]].SetInt64(source.Int63n(7) - 3)
	return step.times(a)
}

// Small matrices, all of them.
func TestP13AllSmall(t *testing.T) {
	for i := 0; i < 7*7*7*7; i++ {
		checkReduce(start(t), fmt.Sprintf("2x2: %d %d; %d %d", i%7-3, i/7%7-3, i/49%7-3, i/343-3))
	}
	for i := 0; i < 3*3*3*3*3*3; i++ {
		v := []any{}
		for n, rest := 0, i; n < 6; n++ {
			v = append(v, 2*(rest%3)-2)
			rest /= 3
		}
		checkReduce(start(t), fmt.Sprintf("3x2: %d %d; %d %d; %d %d", v...))
		checkReduce(start(t), fmt.Sprintf("2x3: %d %d %d; %d %d %d", v...))
	}
}

// m is just 1/2, just -1/2, or next to them, with the row just ahead and with
// one further ahead.
func TestP13Halves(t *testing.T) {
	for x := -9; x <= 9; x++ {
		for _, form := range []string{"2x2: 2 0; %d 5", "2x2: 4 0; %d 9", "2x2: 0 -6; 7 %d", "3x3: 2 0 0; 0 2 0; %d 1 3", "3x3: 2 0 0; 0 2 0; 1 %d 3", "3x3: 2 0 0; 1 2 0; %d -1 3", "2x3: 2 0 0; %d 1 1", "2x4: 2 2 2 2; %d 0 0 4"} {
			checkReduce(start(t), fmt.Sprintf(form, x))
		}
	}
	for _, form := range []string{
		"2x2: N 0; 140737488355327 M", "2x2: N 0; -140737488355327 M", "2x2: N 0; 140737488355328 M", "2x2: N 0; -140737488355328 M", "2x2: M 0; 140737488355327 M", "2x2: M 0; 140737488355328 M", "2x2: M 0; -140737488355328 M",
		"4x4: N 0 0 0; 0 N 0 0; 0 0 N 0; 140737488355327 -140737488355327 140737488355327 M", "4x4: N 0 0 0; 0 N 0 0; 0 0 N 0; 140737488355328 -140737488355328 140737488355328 M", "2x2: N N; -N 0", "2x2: N 0; -140737488355327 140737488355327",
	} {
		checkReduce(start(t), greatText(form))
	}
}

// r* . r* is just what it must be, or next to it.
func TestP13JustLongEnough(t *testing.T) {
	for _, text := range []string{"2x4: 2 0 0 0; 0 1 1 1", "2x4: 0 1 1 1; 2 0 0 0", "2x3: 2 0 0; 1 1 1", "2x3: 1 1 1; 2 0 0", "2x3: 2 0 0; -1 1 1", "2x4: 2 0 0 0; 0 1 1 0", "4x4: 2 0 0 0; 1 1 1 0; 1 1 0 1; 1 0 1 1", "3x4: 1 1 0 0; 1 0 1 0; 1 0 0 1"} {
		checkReduce(start(t), text)
	}
	for n := 60; n <= 110; n++ {
		for _, m := range []int{-50, -49, -20, 0, 20, 49, 50} {
			checkReduce(start(t), fmt.Sprintf("2x2: 100 0; %d %d", m, n))
			checkReduce(start(t), fmt.Sprintf("3x3: 10 0 0; 0 100 0; 5 %d %d", m, n))
		}
	}
}

func TestP13GreatEntries(t *testing.T) {
	for _, form := range []string{
		"4x4: M M M M; M -M M -M; M M -M -M; M -M -M M", "4x4: M N M N; N M N M; -M -N -M -N; M M M M", "4x4: M N -M M; N N M -N; M M N N; -N M M M",
		"4x3: M N M; N M M; M M N; N N N", "3x4: M N M N; N M M N; M M N N", "4x1: M; N; M; -N", "1x4: M -N M N", "4x2: M N; N M; M M; N N", "2x4: M N M N; N N M -M",
		"4x4: M M M M; M M M M; M M M M; M M M M", "4x4: 0 0 0 M; 0 0 N 0; 0 -M 0 0; -N 0 0 0", "4x4: M 1 0 0; 0 M 1 0; 0 0 M 1; 0 0 0 M", "4x4: 1 0 0 M; 0 1 0 N; 0 0 1 -M; 0 0 0 M", "4x4: M -1 0 7; 3 M -M 1; 0 -M M 2; 9 8 -7 M",
		"4x4: M N 0 0; N M 0 0; 0 0 M N; 0 0 N M", "4x3: M 0 0; 0 M 0; 0 0 M; N N N", "4x4: M N 1 0; M N 0 1; N M 1 1; -N -M 0 0", "2x2: M N; N 281474976710653", "2x2: 196418000000000 121393000000001; 121393000000000 75025000000001",
	} {
		checkReduce(start(t), greatText(form))
	}
}

// The rows of a matrix and of what its steps lead to span the same: so do what
// Reduce makes of them. R is short, so that it can be reduced again.
func TestP13OfWhatItMade(t *testing.T) {
	source := rand.New(rand.NewSource(130))
	for i := 0; i < 200; i++ {
		a := someTable(t, source, source.Intn(5), source.Intn(5))
		r, _ := checkReduce(start(t), a.text())
		if r.fits() {
			checkReduce(start(t), r.text())
		}
		b := mixed(source, a)
		if b.fits() {
			s, _ := checkReduce(start(t), b.text())
			if same := a.spans(b) && b.spans(a); same != (r.spans(s) && s.spans(r)) {
				t.Fatalf("P13: of %q R is %q, of %q it is %q", a.text(), r.text(), b.text(), s.text())
			}
		}
	}
}

// What comes out may be far beyond 64 bits: here T must have the cube of most,
// as R has the rows of a unit matrix. It is then no operand any more.
func TestP5WhatComesOutOfReduceMayBeGreat(t *testing.T) {
	text := greatText("4x4: 1 M 0 0; 0 1 M 0; 0 0 1 M; 0 0 0 1")
	_, w := checkReduce(start(t), text)
	cube := new(big.Int).Exp(big.NewInt(bound), big.NewInt(3), nil)
	found := false
	for _, row := range w.at {
		for _, v := range row {
			found = found || v.CmpAbs(cube) == 0
		}
	}
	if !found {
		t.Errorf("P13: of %q T is %q", text, w.text())
	}
	d := start(t)
	l := d.reduce(d.put(text))
	d.unchanged(func() { d.refuseReduce(l[1], api.ErrTooBig) })
	if again := d.reduce(l[0]); again[0] != 3 {
		t.Errorf("P4: Reduce of R = %v", again)
	}
}

func TestP13FreedOneByOne(t *testing.T) {
	for keep := 0; keep < 3; keep++ {
		d := start(t)
		g := d.put("2x3: 4 6 8; 6 4 2")
		all := append(d.reduce(g), g)
		want := d.show(all[keep])
		for i, k := range all {
			if i != keep {
				d.free(k)
			}
		}
		if d.show(all[keep]) != want || len(d.held()) != 1 {
			t.Errorf("P13: the others freed, held: %v, was %q", d.held(), want)
		}
	}
}

func TestP2ListsOfReduceAreTheCallers(t *testing.T) {
	d := start(t)
	g := d.put("2x2: 4 6; 6 4")
	first := d.reduce(g)
	second := d.reduce(g)
	d.unchanged(func() { first[0], first[1] = -77, 0 })
	if fmt.Sprint(second) != "[3 4]" {
		t.Errorf("P2, P4: a list that was written into, and the next: %v", second)
	}
	second[0], second[1] = 0, 0
	if third := d.reduce(g); fmt.Sprint(third) != "[5 6]" {
		t.Errorf("P2, P4: a list that was written into, then %v", third)
	}
}

// Two come out, so that there must be room for two, even if they have no rows.
func TestP5RoomForReduce(t *testing.T) {
	for _, text := range []string{"1x1: -6", "0x0:", "2x0:", "2x2: 0 0; 0 0"} {
		for held := 1; held <= 24; held++ {
			d := start(t)
			for i := 0; i < held; i++ {
				d.put(text)
			}
			if held > 22 {
				d.unchanged(func() { d.refuseReduce(held/2, api.ErrFull) })
				d.unchanged(func() { d.refuseReduce(24, api.ErrNoHandle) })
				d.free(0)
				d.s.Free(23)
			}
			if l := d.reduce(held / 2); l[0] != held {
				t.Errorf("P4, P13: %d held, Reduce = %v, then held: %v", held, l, d.held())
			}
		}
	}
}

func TestP5OrderInReduce(t *testing.T) {
	for room := 0; room <= 2; room++ {
		d := start(t)
		great, tall := d.great(), d.tallGreat()
		small, gone := d.put("2x2: 4 6; 6 4"), d.put("1x1: 1")
		d.free(gone)
		last := d.fill()
		for i := 0; i < room; i++ {
			d.free(last - i)
		}
		d.unchanged(func() {
			for _, none := range append(nowhere, gone) {
				d.refuseReduce(none, api.ErrNoHandle)
			}
			d.refuseReduce(great, api.ErrTooBig)
			d.refuseReduce(tall, api.ErrTooBig)
			if room < 2 {
				d.refuseReduce(small, api.ErrFull)
			}
		})
		if room == 2 && d.reduce(small)[0] != last+1 {
			t.Error("P1, P4: refused calls took handles")
		}
	}
}

// 2^48 - 1 in amount is not too great, 2^48 is.
func TestP5TheBoundInReduce(t *testing.T) {
	for i, c := range [][2]string{{"16777215", "16777217"}, {"-16777215", "16777217"}, {half, half}, {half, "-" + half}} {
		d := start(t)
		k := d.times(d.put("1x1: "+c[0]), d.put("1x1: "+c[1]))
		if i > 1 {
			d.unchanged(func() { d.refuseReduce(k, api.ErrTooBig) })
			continue
		}
		if r := d.show(d.reduce(k)[0]); r != "1x1: "+most && r != "1x1: -"+most {
			t.Errorf("P13: of %q R is %q", d.show(k), r)
		}
	}
}
