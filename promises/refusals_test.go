package promises

import (
	"fmt"
	"math/rand"
	"strings"
	"testing"

	"matrices/api"
)

// nowhere: handles that stand for nothing in the desks of this file.
var nowhere = []int{-1, -2, 1000, farLow, farHigh, 1 << 32, -1 << 32}

func TestP1EveryCallEnds(t *testing.T) {
	d := start(t)
	d.put("2x2: 1 2; 3 4")
	texts := []string{"", "\x00", "x", "9x9", "99x99:", "\xff\xfe", strings.Repeat("1x1: 1", 1000), strings.Repeat("-", 4000), "1x1: " + strings.Repeat("0", 3995), strings.Repeat("9", 4000) + "x1:", "4x4:" + strings.Repeat(" ", 3996), "99x99:" + strings.Repeat(" 1", 1997)}
	d.unchanged(func() {
		for _, text := range texts {
			d.refuseType(text, api.ErrSyntax)
		}
		for _, g := range nowhere {
			for _, h := range append(nowhere, 0) {
				d.refuseTimes(g, h, api.ErrNoHandle)
				d.refuseTimes(h, g, api.ErrNoHandle)
				d.refuseMember(g, h, api.ErrNoHandle)
				d.refuseMember(h, g, api.ErrNoHandle)
				d.refuseEqual(g, h, api.ErrNoHandle)
				d.refuseEqual(h, g, api.ErrNoHandle)
				d.refuseSum(g, h, api.ErrNoHandle)
				d.refuseSum(h, g, api.ErrNoHandle)
				d.refuseSolve(g, h, api.ErrNoHandle)
				d.refuseSolve(h, g, api.ErrNoHandle)
			}
			d.refuseReduce(g, api.ErrNoHandle)
			d.refuseDiagonal(g, api.ErrNoHandle)
			d.refuseIndex(g, api.ErrNoHandle)
			d.refuseEchelon(g, api.ErrNoHandle)
			d.refuseDet(g, api.ErrNoHandle)
			d.refuseRank(g, api.ErrNoHandle)
			if text, e := d.s.Show(g); text != "" || e != api.ErrNoHandle {
				t.Errorf("P1, P4: Show(%d) = %q, %d", g, text, e)
			}
			if e := d.s.Free(g); e != api.ErrNoHandle {
				t.Errorf("P1, P4: Free(%d) = %d", g, e)
			}
		}
	})
	if h := d.put("0x0:"); h != 1 {
		t.Errorf("P1: refused calls took handles: the next is %d, want 1", h)
	}
}

func TestP1EveryByte(t *testing.T) {
	d := start(t)
	const text = "2x1: 7; -7"
	for at := 0; at < len(text); at++ {
		for b := 0; b < 256; b++ {
			try := text[:at] + string([]byte{byte(b)}) + text[at+1:]
			if want := judge(try); want != api.OK {
				d.refuseType(try, want)
				continue
			}
			d.free(d.put(try))
		}
	}
}

func TestP1RefusedCallsChangeNothing(t *testing.T) {
	d := start(t)
	flat := d.put("2x3: 1 2 3; 4 5 6")
	great := d.great()
	last := d.fill()
	d.unchanged(func() {
		d.refuseType("1x1: 1", api.ErrFull)
		d.refuseType("1x5: 1 2 3 4 5", api.ErrTooBig)
		d.refuseType("1x1:", api.ErrSyntax)
		d.refuseTimes(flat, flat, api.ErrShape)
		d.refuseTimes(great, great, api.ErrTooBig)
		d.refuseTimes(flat, -1, api.ErrNoHandle)
		d.refuseTimes(last, last, api.ErrFull)
		d.refuseDet(flat, api.ErrShape)
		d.refuseDet(great, api.ErrTooBig)
		d.refuseRank(great, api.ErrTooBig)
		d.refuseEchelon(last, api.ErrFull)
		d.refuseEchelon(great, api.ErrTooBig)
		d.refuseMember(flat, flat, api.ErrShape)
		d.refuseMember(great, last, api.ErrTooBig)
		d.refuseMember(last, last, api.ErrFull)
		d.refuseEqual(flat, last, api.ErrShape)
		d.refuseEqual(last, great, api.ErrTooBig)
		d.refuseSum(flat, last, api.ErrShape)
		d.refuseSum(last, great, api.ErrTooBig)
		d.refuseSum(last, last, api.ErrFull)
		d.refuseDiagonal(last, api.ErrFull)
		d.refuseDiagonal(great, api.ErrTooBig)
		d.refuseIndex(great, api.ErrTooBig)
		d.refuseSolve(flat, last, api.ErrShape)
		d.refuseSolve(great, last, api.ErrTooBig)
		d.refuseSolve(last, last, api.ErrFull)
		d.refuseReduce(last, api.ErrFull)
		d.refuseReduce(great, api.ErrTooBig)
	})
	d.free(last)
	if h := d.put("1x1: 1"); h != last+1 {
		t.Errorf("P1: the next handle is %d, want %d", h, last+1)
	}
}

// script: some hundred calls, chosen by a seed; what they answer, line by line,
// and what is held in the end. With shows, Show is called between them.
func script(d desk, seed int64, shows bool) string {
	source := rand.New(rand.NewSource(seed))
	out := strings.Builder{}
	known := []int{-1}
	for i := 0; i < 300; i++ {
		g, h := known[source.Intn(len(known))], known[source.Intn(len(known))]
		what, handles, e := anyCall(d, source, g, h)
		fmt.Fprintln(&out, what, handles, e)
		known = append(known, handles...)
		for e == api.ErrFull && len(known) > 16 {
			d.s.Free(known[0])
			known = known[1:]
		}
		for k := 0; shows && k < len(known); k++ {
			d.s.Show(known[k])
		}
	}
	for _, k := range known {
		text, e := d.s.Show(k)
		fmt.Fprintln(&out, "Show", k, text, e)
	}
	return out.String()
}

// anyCall: a call at random; what it answered, the handles that came out, and
// the error.
func anyCall(d desk, source *rand.Rand, g int, h int) (string, []int, api.Errno) {
	switch source.Intn(16) {
	case 0, 1, 2:
		rows, cols := source.Intn(3), 2-source.Intn(4)/3
		k, e := d.s.Type(write(rows, cols, anyMatrix(source, rows, cols)))
		return "Type", listed(k), e
	case 3:
		return "Free", nil, d.s.Free(h)
	case 4, 5:
		k, e := d.s.Times(g, h)
		return "Times", listed(k), e
	case 6:
		text, e := d.s.Det(h)
		return "Det " + text, nil, e
	case 7:
		r, e := d.s.Rank(h)
		return fmt.Sprint("Rank ", r), nil, e
	case 8:
		l, e := d.s.Echelon(h)
		return "Echelon", l, e
	case 9:
		yes, k, e := d.s.Member(g, h)
		return fmt.Sprint("Member ", yes), listed(k), e
	case 10:
		yes, e := d.s.Equal(g, h)
		return fmt.Sprint("Equal ", yes), nil, e
	case 11:
		l, e := d.s.Diagonal(h)
		return "Diagonal", l, e
	case 12:
		n, e := d.s.Index(h)
		return "Index " + n, nil, e
	case 13:
		yes, l, e := d.s.Solve(g, h)
		return fmt.Sprint("Solve ", yes), l, e
	case 14:
		l, e := d.s.Reduce(h)
		return "Reduce", l, e
	}
	k, e := d.s.Sum(g, h)
	return "Sum", listed(k), e
}

func listed(k int) []int {
	if k < 0 {
		return nil
	}
	return []int{k}
}

func TestP2AnswersHangOnTheCallsAlone(t *testing.T) {
	for seed := int64(0); seed < 20; seed++ {
		plain := script(start(t), seed, false)
		script(start(t), seed+1000, false)
		if again := script(start(t), seed, false); again != plain {
			t.Fatalf("P2: the same calls, other answers (seed %d)", seed)
		}
		if shown := script(start(t), seed, true); shown != plain {
			t.Fatalf("P2: Show changes what comes out (seed %d)", seed)
		}
	}
}

// P5's order, with every set of refusals that can be due at once.
func TestP5OrderInTimes(t *testing.T) {
	for _, full := range []bool{false, true} {
		d := start(t)
		one := d.put("1x1: 2")
		column := d.put("2x1: 1; 1")
		great := d.great()
		tall := d.tallGreat()
		if full {
			d.fill()
		}
		d.unchanged(func() {
			for _, none := range nowhere {
				for _, h := range []int{one, column, great, tall, none} {
					d.refuseTimes(none, h, api.ErrNoHandle)
					d.refuseTimes(h, none, api.ErrNoHandle)
				}
			}
			d.refuseTimes(one, column, api.ErrShape)
			d.refuseTimes(column, column, api.ErrShape)
			d.refuseTimes(great, column, api.ErrShape)
			d.refuseTimes(one, tall, api.ErrShape)
			d.refuseTimes(great, tall, api.ErrShape)
			d.refuseTimes(tall, tall, api.ErrShape)
			d.refuseTimes(great, one, api.ErrTooBig)
			d.refuseTimes(one, great, api.ErrTooBig)
			d.refuseTimes(great, great, api.ErrTooBig)
			d.refuseTimes(tall, one, api.ErrTooBig)
			d.refuseTimes(column, great, api.ErrTooBig)
			if full {
				d.refuseTimes(one, one, api.ErrFull)
				d.refuseTimes(column, one, api.ErrFull)
			}
		})
		if !full && d.show(d.times(column, one)) != "2x1: 2; 2" {
			t.Error("P6: a product behind refusals is wrong")
		}
	}
}

func TestP5OrderInDetAndRank(t *testing.T) {
	for _, full := range []bool{false, true} {
		d := start(t)
		great, tall := d.great(), d.tallGreat()
		flat, square := d.put("1x2: 1 2"), d.put("2x2: 1 2; 3 4")
		if full {
			d.fill()
		}
		d.unchanged(func() {
			for _, none := range nowhere {
				d.refuseDet(none, api.ErrNoHandle)
				d.refuseRank(none, api.ErrNoHandle)
			}
			d.refuseDet(tall, api.ErrShape)
			d.refuseDet(flat, api.ErrShape)
			d.refuseDet(great, api.ErrTooBig)
			d.refuseRank(great, api.ErrTooBig)
			d.refuseRank(tall, api.ErrTooBig)
			// Nothing comes to be held, so that a full store is no hindrance.
			if text, e := d.s.Det(square); text != "-2" || e != api.OK {
				t.Errorf("P5, P7: Det, full %v, = %q, %d", full, text, e)
			}
			if r, e := d.s.Rank(square); r != 2 || e != api.OK {
				t.Errorf("P5, P7: Rank, full %v, = %d, %d", full, r, e)
			}
		})
	}
}

// 2^48 - 1 in amount is not too great for an operand, though it came out of a
// product; 2^48 is; so is what is far greater.
func TestP5TheBoundOfEntries(t *testing.T) {
	d := start(t)
	one := d.put("1x1: 1")
	for _, c := range []struct {
		left, right, product string
		great                bool
	}{
		{"1x1: 16777215", "1x1: 16777217", "1x1: " + most, false},
		{"1x1: -16777215", "1x1: 16777217", "1x1: -" + most, false},
		{"1x1: " + half, "1x1: " + half, "1x1: " + overMost, true},
		{"1x1: " + half, "1x1: -" + half, "1x1: -" + overMost, true},
		{"1x1: 4294967296", "1x1: 4294967296", "1x1: 18446744073709551616", true},
		{"1x1: -4294967296", "1x1: 4294967296", "1x1: -18446744073709551616", true},
		{"1x1: 281474976710400", "1x1: 281474976710400", "1x1: 79228162514120222405468160000", true},
	} {
		g, h := d.put(c.left), d.put(c.right)
		k := d.times(g, h)
		if got := d.show(k); got != c.product {
			t.Errorf("P6: %q times %q = %q", c.left, c.right, got)
		}
		if c.great {
			d.refuseTimes(k, one, api.ErrTooBig)
			d.refuseTimes(one, k, api.ErrTooBig)
			d.refuseDet(k, api.ErrTooBig)
			d.refuseRank(k, api.ErrTooBig)
		} else {
			text, e := d.s.Det(k)
			if e != api.OK || "1x1: "+text != c.product {
				t.Errorf("P5: Det of %q = %q, %d", c.product, text, e)
			}
			d.free(d.times(k, one))
		}
		d.free(g)
		d.free(h)
		d.free(k)
	}
}
