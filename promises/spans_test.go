package promises

import (
	"math/big"
	"math/rand"
	"testing"

	"matrices/api"
)

// members: a matrix, a row, and whether it is spanned.
var members = []struct {
	a, v string
	yes  bool
}{
	{"2x2: 2 4; 0 6", "1x2: 4 2", true}, {"2x2: 2 4; 0 6", "1x2: 1 2", false}, {"2x2: 2 4; 0 6", "1x2: 0 0", true}, {"2x2: 2 4; 0 6", "1x2: 0 3", false}, {"2x2: 2 4; 0 6", "1x2: 2 4", true}, {"2x2: 2 4; 0 6", "1x2: -2 -10", true}, {"2x2: 2 4; 0 6", "1x2: 2 5", false},
	// Of no rows the row of noughts alone is spanned; so of rows of noughts.
	{"0x2:", "1x2: 0 0", true}, {"0x2:", "1x2: 0 1", false}, {"0x2:", "1x2: -1 0", false}, {"0x1:", "1x1: 0", true}, {"0x4:", "1x4: 0 0 0 0", true}, {"0x4:", "1x4: 0 0 0 1", false},
	{"2x2: 0 0; 0 0", "1x2: 0 0", true}, {"2x2: 0 0; 0 0", "1x2: 1 0", false}, {"2x2: 0 0; 0 0", "1x2: 0 -1", false}, {"4x1: 0; 0; 0; 0", "1x1: 0", true},
	// Without columns there is one row alone.
	{"0x0:", "1x0:", true}, {"1x0:", "1x0:", true}, {"2x0:", "1x0:", true}, {"4x0:", "1x0:", true},
	{"3x1: 6; 10; 15", "1x1: 1", true}, {"3x1: 6; 10; 15", "1x1: -1", true}, {"2x1: 6; 10", "1x1: 4", true}, {"2x1: 6; 10", "1x1: 3", false}, {"2x1: 6; 10", "1x1: -2", true}, {"1x1: 6", "1x1: 3", false}, {"1x1: 6", "1x1: -12", true}, {"1x1: -6", "1x1: 6", true}, {"1x1: 6", "1x1: 1", false}, {"1x1: 0", "1x1: 1", false},
	{"2x3: 1 2 3; 2 4 6", "1x3: -3 -6 -9", true}, {"2x3: 1 2 3; 2 4 6", "1x3: 1 2 4", false}, {"2x3: 2 4 6; 4 8 12", "1x3: 1 2 3", false}, {"2x3: 2 4 6; 3 6 9", "1x3: 1 2 3", true},
	{"2x3: 0 2 1; 0 0 3", "1x3: 0 2 4", true}, {"2x3: 0 2 1; 0 0 3", "1x3: 1 2 4", false}, {"2x3: 0 2 1; 0 0 3", "1x3: 0 2 3", false}, {"1x3: 0 0 5", "1x3: 0 5 0", false}, {"1x3: 0 0 5", "1x3: 0 0 -5", true},
	{"3x3: 1 2 3; 4 5 6; 7 8 9", "1x3: 1 1 1", false}, {"3x3: 1 2 3; 4 5 6; 7 8 9", "1x3: 3 3 3", true},
	{"1x1: " + most, "1x1: -" + most, true}, {"1x1: " + most, "1x1: 281474976710654", false}, {"2x1: " + most + "; 281474976710654", "1x1: 1", true}, {"2x1: " + most + "; 281474976710654", "1x1: -" + most, true}, {"1x1: 1", "1x1: " + most, true}, {"1x2: 1 -1", "1x2: " + most + " -" + most, true}, {"1x2: 1 -1", "1x2: " + most + " " + most, false},
}

// checkMember: calls Member on a new desk and looks at what P9 says of c.
func checkMember(d desk, a table, v table) bool {
	d.t.Helper()
	g, h := d.put(a.text()), d.put(v.text())
	before := len(d.held())
	k := d.member(g, h)
	if k >= 0 {
		c := read(d.t, d.show(k))
		if c.rows != 1 || c.cols != a.rows {
			d.t.Fatalf("P9: Member of %q and %q: c is %q", a.text(), v.text(), c.text())
		}
		if got := c.times(a).text(); got != v.text() {
			d.t.Fatalf("P9: Member of %q and %q: c is %q, c times A is %q", a.text(), v.text(), c.text(), got)
		}
		if k != h+1 {
			d.t.Fatalf("P4: Member held what comes behind %d as %d", h, k)
		}
		d.free(k)
	}
	if after := len(d.held()); after != before {
		d.t.Fatalf("P9: %d were held, then %d", before, after)
	}
	if d.show(g) != a.text() || d.show(h) != v.text() {
		d.t.Fatalf("P9: Member changed %q or %q", a.text(), v.text())
	}
	d.free(g)
	d.free(h)
	return k >= 0
}

func TestP9Members(t *testing.T) {
	for _, c := range members {
		if got := checkMember(start(t), read(t, c.a), read(t, c.v)); got != c.yes {
			t.Errorf("P9: Member of %q and %q = %v", c.a, c.v, got)
		}
	}
}

func TestP9MemberOfItself(t *testing.T) {
	d := start(t)
	h := d.put("1x3: 4 -6 8")
	k := d.member(h, h)
	if got := d.show(k); got != "1x1: 1" {
		t.Errorf("P9: a row is %q of itself", got)
	}
}

// anyRow: a row that may be spanned by a, or nearly so, its entries in bounds.
func anyRow(source *rand.Rand, a table) table {
	v := blank(1, a.cols)
	limit := []int64{1, 3, 1000}[source.Intn(3)]
	for _, row := range a.at {
		by := big.NewInt(source.Int63n(2*limit+1) - limit)
		for c := range row {
			v.at[0][c].Add(v.at[0][c], new(big.Int).Mul(by, row[c]))
		}
	}
	if a.cols > 0 && source.Intn(3) == 0 {
		one := v.at[0][source.Intn(a.cols)]
		one.Add(one, big.NewInt(source.Int63n(5)-2))
	}
	if source.Intn(2) == 0 { // a fraction of what is spanned
		all := big.NewInt(0)
		for _, x := range v.at[0] {
			all.GCD(nil, nil, all, new(big.Int).Abs(x))
		}
		for _, x := range v.at[0] {
			if all.Sign() > 0 {
				x.Quo(x, all)
			}
		}
	}
	if !v.fits() {
		for c := range v.at[0] {
			v.at[0][c].SetInt64(source.Int63n(2*bound+1) - bound)
		}
	}
	return v
}

// someTable: any matrix, or a thin one, of these sides.
func someTable(t *testing.T, source *rand.Rand, rows int, cols int) table {
	if rows > 0 && cols > 0 && source.Intn(3) == 0 {
		return thin(source, rows, 1+source.Intn(2), cols)
	}
	return read(t, write(rows, cols, anyMatrix(source, rows, cols)))
}

func TestP9MembersAtRandom(t *testing.T) {
	source := rand.New(rand.NewSource(9))
	yes, no, fraction := 0, 0, 0
	for i := 0; i < 3000; i++ {
		a := someTable(t, source, source.Intn(5), source.Intn(5))
		v := anyRow(source, a)
		want := a.spans(v)
		if got := checkMember(start(t), a, v); got != want {
			t.Fatalf("P9: Member of %q and %q = %v", a.text(), v.text(), got)
		}
		switch {
		case want:
			yes++
		case a.size()[0] == a.over(v).size()[0]:
			fraction++
		default:
			no++
		}
	}
	if yes < 300 || no < 300 || fraction < 300 {
		t.Errorf("the test is wrong: %d are spanned, %d by fractions alone, %d not", yes, fraction, no)
	}
}

// sums: two matrices, what Sum makes of them, and whether they span the same.
var sums = []struct {
	a, b, sum string
	eq        bool
}{
	{"1x1: 6", "1x1: 10", "1x1: 2", false}, {"1x1: 6", "1x1: -6", "1x1: 6", true}, {"1x1: 6", "1x1: 3", "1x1: 3", false}, {"1x1: 0", "1x1: -5", "1x1: 5", false}, {"1x1: 0", "1x1: 0", "0x1:", true}, {"1x1: 0", "0x1:", "0x1:", true}, {"0x1:", "0x1:", "0x1:", true}, {"0x1:", "1x1: 1", "1x1: 1", false},
	{"2x2: 1 2; 3 4", "2x2: 4 6; 1 2", "2x2: 1 0; 0 2", true}, {"0x2:", "2x2: 0 0; 0 0", "0x2:", true}, {"0x2:", "4x2: 0 0; 0 0; 0 -1; 0 0", "1x2: 0 1", false},
	// Without columns all span the same, and no row has a pivot.
	{"0x0:", "0x0:", "0x0:", true}, {"0x0:", "3x0:", "0x0:", true}, {"4x0:", "4x0:", "0x0:", true}, {"1x0:", "4x0:", "0x0:", true},
	{"1x2: 2 0", "1x2: 0 3", "2x2: 2 0; 0 3", false}, {"1x2: 1 2", "1x2: 2 1", "2x2: 1 2; 0 3", false}, {"2x2: 2 4; 0 6", "2x2: -2 -4; 2 10", "2x2: 2 4; 0 6", true}, {"1x2: 2 4", "1x2: 1 2", "1x2: 1 2", false}, {"3x1: 4; 6; 0", "1x1: 2", "1x1: 2", true},
	{"2x3: 1 2 3; 2 4 6", "1x3: 1 2 3", "1x3: 1 2 3", true}, {"2x3: 2 4 6; 3 6 9", "1x3: -1 -2 -3", "1x3: 1 2 3", true}, {"2x3: 2 4 6; 4 8 12", "1x3: 1 2 3", "1x3: 1 2 3", false},
	// The same pivots, other rows; the same rank, other rows.
	{"2x2: 2 1; 0 2", "2x2: 2 0; 0 2", "2x2: 2 0; 0 1", false}, {"1x2: 1 1", "1x2: 1 2", "2x2: 1 0; 0 1", false}, {"1x3: 0 1 0", "1x3: 0 0 1", "2x3: 0 1 0; 0 0 1", false},
	{"4x4: 2 0 0 0; 0 3 0 0; 0 0 5 0; 0 0 0 7", "4x4: 3 0 0 0; 0 5 0 0; 0 0 7 0; 0 0 0 2", "4x4: 1 0 0 0; 0 1 0 0; 0 0 1 0; 0 0 0 1", false},
	{"4x2: 4 0; 0 4; 4 4; 8 0", "4x2: 6 0; 0 6; 6 6; 0 0", "2x2: 2 0; 0 2", false}, {"4x4: 1 0 0 0; 0 1 0 0; 0 0 1 0; 0 0 0 1", "4x4: 1 5 6 7; 0 1 8 9; 0 0 1 2; 0 0 0 -1", "4x4: 1 0 0 0; 0 1 0 0; 0 0 1 0; 0 0 0 1", true},
	{"1x1: " + most, "1x1: 281474976710654", "1x1: 1", false}, {"1x1: " + most, "1x1: -" + most, "1x1: " + most, true}, {"1x2: " + most + " 0", "1x2: 0 -" + most, "2x2: " + most + " 0; 0 " + most, false},
}

// checkSum: calls Sum and Equal on a new desk, both ways round, and looks at what P9 says of
// the sum; the sum, and whether both span the same.
func checkSum(d desk, a table, b table) (string, bool) {
	d.t.Helper()
	g, h := d.put(a.text()), d.put(b.text())
	k := d.sum(g, h)
	sum := read(d.t, d.show(k))
	if k != h+1 || len(d.held()) != 3 {
		d.t.Fatalf("P4: Sum(%d, %d) = %d, then held: %v", g, h, k, d.held())
	}
	if fault := sum.fault(true); fault != "" || sum.cols != a.cols {
		d.t.Fatalf("P9: Sum of %q and %q = %q: %s", a.text(), b.text(), sum.text(), fault)
	}
	both := a.over(b)
	if !sum.spans(both) || !both.spans(sum) {
		d.t.Fatalf("P9: Sum of %q and %q = %q spans something else", a.text(), b.text(), sum.text())
	}
	back := d.sum(h, g)
	if d.show(back) != sum.text() {
		d.t.Fatalf("P9: Sum of %q and %q = %q, the other way round %q", a.text(), b.text(), sum.text(), d.show(back))
	}
	eq := false
	d.unchanged(func() { eq = d.equal(g, h) })
	if d.equal(h, g) != eq || !d.equal(g, g) || !d.equal(h, h) {
		d.t.Fatalf("P9: Equal of %q and %q hangs on the order, or one is not as itself", a.text(), b.text())
	}
	if d.show(g) != a.text() || d.show(h) != b.text() {
		d.t.Fatalf("P9: Sum or Equal changed %q or %q", a.text(), b.text())
	}
	for _, one := range []int{g, h, k, back} {
		d.free(one)
	}
	return sum.text(), eq
}

func TestP9Sums(t *testing.T) {
	for _, c := range sums {
		sum, eq := checkSum(start(t), read(t, c.a), read(t, c.b))
		if sum != c.sum || eq != c.eq {
			t.Errorf("P9: Sum of %q and %q = %q, Equal = %v, want %q, %v", c.a, c.b, sum, eq, c.sum, c.eq)
		}
	}
}

// mixed: rows that span what a spans, or nearly so: a row is taken to others,
// signs are turned, rows change places; at times one is doubled.
func mixed(source *rand.Rand, a table) table {
	b := blank(a.rows, a.cols)
	for i, r := range source.Perm(a.rows) {
		for c, v := range a.at[r] {
			b.at[i][c].Set(v)
		}
	}
	for n := source.Intn(5); n > 0 && a.rows > 0; n-- {
		g, h := source.Intn(a.rows), source.Intn(a.rows)
		by := big.NewInt(source.Int63n(5) - 2)
		for c, v := range b.at[g] {
			if g == h && by.Sign() < 0 {
				v.Neg(v)
			}
			if g != h {
				v.Add(v, new(big.Int).Mul(by, b.at[h][c]))
			}
		}
	}
	if a.rows > 0 && source.Intn(3) == 0 {
		for _, v := range b.at[0] {
			v.Lsh(v, 1)
		}
	}
	return b
}

func TestP9SumsAtRandom(t *testing.T) {
	source := rand.New(rand.NewSource(99))
	same, part, other := 0, 0, 0
	for i := 0; i < 1200; i++ {
		cols := source.Intn(5)
		a := someTable(t, source, source.Intn(5), cols)
		b := someTable(t, source, source.Intn(5), cols)
		if near := mixed(source, a); near.fits() && source.Intn(2) == 0 {
			b = near
		}
		_, eq := checkSum(start(t), a, b)
		if want := a.spans(b) && b.spans(a); eq != want {
			t.Fatalf("P9: Equal of %q and %q = %v", a.text(), b.text(), eq)
		}
		switch {
		case eq:
			same++
		case a.spans(b) || b.spans(a):
			part++
		default:
			other++
		}
	}
	if same < 100 || part < 100 || other < 100 {
		t.Errorf("the test is wrong: %d span the same, %d one within the other, %d neither", same, part, other)
	}
}

// A matrix and its row form span the same; so do a matrix and its sum with
// itself or with no rows.
func TestP9FormsSpanTheSame(t *testing.T) {
	d := start(t)
	a := d.put("4x3: 4 6 8; 2 -2 0; 0 0 0; 6 4 8")
	none := d.put("0x3:")
	form := d.echelon(a)[0]
	for _, k := range []int{form, d.sum(a, a), d.sum(a, none), d.sum(none, a), d.sum(form, a)} {
		if !d.equal(a, k) || !d.equal(k, form) || d.equal(k, none) {
			t.Errorf("P9: %q spans something else than %q", d.show(k), d.show(a))
		}
	}
	if got := d.show(d.sum(none, none)); got != "0x3:" {
		t.Errorf("P9: the sum of no rows is %q", got)
	}
}

func TestP9SidesThatDoNotGoTogether(t *testing.T) {
	for rows := 0; rows <= 4; rows++ {
		for cols := 0; cols <= 4; cols++ {
			d := start(t)
			a := d.put("2x3: 1 0 0; 0 1 0")
			b := d.put(blank(rows, cols).text())
			if cols != 3 {
				d.refuseEqual(a, b, api.ErrShape)
				d.refuseEqual(b, a, api.ErrShape)
				d.refuseSum(a, b, api.ErrShape)
				d.refuseSum(b, a, api.ErrShape)
			} else if d.equal(a, b) || d.show(d.sum(b, a)) != "2x3: 1 0 0; 0 1 0" {
				t.Errorf("P9: of 2x3 and %dx3 Equal or Sum is wrong", rows)
			}
			if cols != 3 || rows != 1 {
				d.refuseMember(a, b, api.ErrShape)
			} else if d.member(a, b) < 0 {
				t.Error("P9: the row of noughts is not spanned")
			}
		}
	}
}

// operand: a matrix for the tests of refusals, and what they need to know.
type operand struct {
	handle, rows, cols int
	held, great        bool
}

// due: which refusal comes first.
func due(g operand, h operand, shape bool, full bool) api.Errno {
	switch {
	case !g.held || !h.held:
		return api.ErrNoHandle
	case !shape:
		return api.ErrShape
	case g.great || h.great:
		return api.ErrTooBig
	case full:
		return api.ErrFull
	}
	return api.OK
}

// P5's order in the calls of P9, with every set of refusals that can be due at
// once: all pairs of some operands, with a full store and without.
func TestP5OrderInSpans(t *testing.T) {
	for _, full := range []bool{false, true} {
		d := start(t)
		all := []operand{
			{d.put("1x1: 2"), 1, 1, true, false}, {d.put("1x1: 3"), 1, 1, true, false}, {d.put("2x1: 4; 6"), 2, 1, true, false},
			{d.put("0x1:"), 0, 1, true, false}, {d.put("1x2: 2 2"), 1, 2, true, false}, {d.put("0x2:"), 0, 2, true, false},
			{d.great(), 1, 1, true, true}, {d.tallGreat(), 2, 1, true, true},
		}
		row, one := d.put("1x2: 1 "+half), d.put("1x1: "+half)
		all = append(all, operand{d.times(one, row), 1, 2, true, true})
		gone := d.put("1x1: 2")
		d.free(gone)
		for _, none := range append(nowhere, gone) {
			all = append(all, operand{none, 1, 1, false, false})
		}
		if full {
			d.fill()
		}
		for _, g := range all {
			for _, h := range all {
				trySpans(d, g, h, full)
			}
		}
	}
}

// trySpans: the three calls of P9 on two operands, refused as is due, or not.
func trySpans(d desk, g operand, h operand, full bool) {
	d.t.Helper()
	alike := g.cols == h.cols
	if e := due(g, h, alike, false); e != api.OK {
		d.unchanged(func() { d.refuseEqual(g.handle, h.handle, e) })
	} else {
		d.unchanged(func() { d.equal(g.handle, h.handle) })
	}
	if e := due(g, h, alike, full); e != api.OK {
		d.unchanged(func() { d.refuseSum(g.handle, h.handle, e) })
	} else {
		d.free(d.sum(g.handle, h.handle))
	}
	e := due(g, h, alike && h.rows == 1, false)
	if e != api.OK {
		d.unchanged(func() { d.refuseMember(g.handle, h.handle, e) })
		return
	}
	spanned := read(d.t, d.show(g.handle)).spans(read(d.t, d.show(h.handle)))
	if full && spanned {
		d.unchanged(func() { d.refuseMember(g.handle, h.handle, api.ErrFull) })
		return
	}
	k := d.member(g.handle, h.handle)
	if spanned != (k >= 0) {
		d.t.Errorf("P9: Member(%d, %d), full %v, = %d", g.handle, h.handle, full, k)
	}
	if k >= 0 {
		d.free(k)
	}
}

// One comes out, so that there must be room for one; of a row that is not
// spanned, and of Equal, nothing comes out.
func TestP5RoomForSpans(t *testing.T) {
	for held := 22; held <= 24; held++ {
		for _, call := range []string{"Sum", "Member"} {
			d := start(t)
			a, in, out := d.put("2x2: 2 4; 0 6"), d.put("1x2: 2 4"), d.put("1x2: 1 1")
			for i := 3; i < held; i++ {
				d.put("1x1: 1")
			}
			d.unchanged(func() {
				if d.member(a, out) != -1 || d.equal(a, in) || !d.equal(in, in) {
					t.Errorf("P9: %d held, Member or Equal is wrong", held)
				}
			})
			if held == 24 {
				d.unchanged(func() {
					d.refuseSum(a, in, api.ErrFull)
					d.refuseMember(a, in, api.ErrFull)
				})
				d.free(23)
			}
			if call == "Sum" && d.sum(a, out) != held || call == "Member" && d.member(a, in) != held {
				t.Errorf("P4: %d held, the handle of %s is not %d", held, call, held)
			}
		}
	}
}

// Handles run on through all calls; what is refused or not spanned takes none.
func TestP4HandlesInWhateverCall(t *testing.T) {
	d := start(t)
	next := 0
	take := func(name string, got int) {
		t.Helper()
		if got != next {
			t.Fatalf("P4: %s gave the handle %d, want %d", name, got, next)
		}
		next++
	}
	for i := 0; i < 20; i++ {
		a, in, out := d.put("2x2: 2 4; 0 6"), d.put("1x2: 4 2"), d.put("1x2: 1 2")
		take("Type", a)
		take("Type", in)
		take("Type", out)
		d.refuseSum(a, -1, api.ErrNoHandle)
		l := d.echelon(a)
		take("Echelon", l[0])
		take("Echelon", l[1])
		take("Echelon", l[2])
		d.member(a, out)
		d.equal(a, out)
		take("Member", d.member(a, in))
		take("Sum", d.sum(in, out))
		d.refuseMember(a, a, api.ErrShape)
		d.refuseEchelon(-1, api.ErrNoHandle)
		take("Times", d.times(in, a))
		for _, k := range d.diagonal(a) {
			take("Diagonal", k)
		}
		d.index(a)
		d.refuseSolve(a, in, api.ErrShape)
		right, wrong := d.put("2x1: 6; 6"), d.put("2x1: 1; 0")
		take("Type", right)
		take("Type", wrong)
		if d.solve(a, wrong) != nil {
			t.Fatal("P12: there is no solution")
		}
		for _, k := range d.solve(a, right) {
			take("Solve", k)
		}
		d.refuseReduce(-1, api.ErrNoHandle)
		for _, k := range d.reduce(a) {
			take("Reduce", k)
		}
		for h := next - 20; h < next; h++ {
			d.free(h)
		}
	}
}
