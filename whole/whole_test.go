package whole

import (
	"math"
	"math/big"
	"math/rand"
	"strings"
	"testing"
)

func fromBig(v *big.Int) Int {
	text := v.String()
	digits := strings.TrimPrefix(text, "-")
	a := FromDigits(digits)
	if digits != text {
		a = a.Neg()
	}
	return a
}

// samples: numbers about the borders of limbs and of decimal chunks, and some
// at random, of both signs.
func samples() []*big.Int {
	out := []*big.Int{big.NewInt(0)}
	add := func(v *big.Int) { out = append(out, v, new(big.Int).Neg(v)) }
	for _, bits := range []uint{0, 1, 31, 32, 33, 47, 48, 63, 64, 65, 96, 128, 192, 400} {
		p := new(big.Int).Lsh(big.NewInt(1), bits)
		add(p)
		add(new(big.Int).Sub(p, big.NewInt(1)))
		add(new(big.Int).Add(p, big.NewInt(1)))
	}
	for _, tens := range []int64{1, 8, 9, 10, 17, 18, 19, 27, 50} {
		p := new(big.Int).Exp(big.NewInt(10), big.NewInt(tens), nil)
		add(p)
		add(new(big.Int).Sub(p, big.NewInt(1)))
	}
	source := rand.New(rand.NewSource(1))
	for i := 0; i < 60; i++ {
		limit := new(big.Int).Lsh(big.NewInt(1), uint(source.Intn(300)))
		add(new(big.Int).Rand(source, limit))
	}
	return out
}

func TestReckoning(t *testing.T) {
	all := samples()
	for _, x := range all {
		for _, y := range all {
			a, b := fromBig(x), fromBig(y)
			for _, c := range []struct {
				name string
				got  Int
				want *big.Int
			}{
				{"+", a.Add(b), new(big.Int).Add(x, y)},
				{"-", a.Sub(b), new(big.Int).Sub(x, y)},
				{"*", a.Mul(b), new(big.Int).Mul(x, y)},
				{"/", a.Quotient(b), roundedDown(x, y)},
				{"to the nearest /", a.Nearest(b), nearest(x, y)},
			} {
				if c.got.Decimal() != c.want.String() {
					t.Fatalf("%s %s %s = %s, want %s", x, c.name, y, c.got.Decimal(), c.want)
				}
				if c.got.Bits() != c.want.BitLen() || c.got.IsZero() != (c.want.Sign() == 0) {
					t.Fatalf("%s %s %s: %d bits, want %d", x, c.name, y, c.got.Bits(), c.want.BitLen())
				}
			}
			if a.Is(b) != (x.Cmp(y) == 0) || a.IsSmaller(b) != (x.CmpAbs(y) < 0) {
				t.Fatalf("%s and %s: Is %v, IsSmaller %v", x, y, a.Is(b), a.IsSmaller(b))
			}
			if got := a.Mul(b).IsMultiple(b); !got {
				t.Fatalf("%s times %s is no multiple of it", x, y)
			}
			if got := a.IsMultiple(b); got != isMultiple(x, y) {
				t.Fatalf("%s is a multiple of %s: %v", x, y, got)
			}
			if a.Decimal() != x.String() || b.Decimal() != y.String() {
				t.Fatalf("%s or %s was changed", x, y)
			}
		}
	}
}

func roundedDown(x *big.Int, y *big.Int) *big.Int {
	if y.Sign() == 0 {
		return big.NewInt(0)
	}
	quotient, left := new(big.Int).QuoRem(x, y, new(big.Int))
	if left.Sign() != 0 && left.Sign() != y.Sign() {
		quotient.Sub(quotient, big.NewInt(1))
	}
	return quotient
}

// nearest: by fractions, both neighbours tried, the one nearer to 0 first.
func nearest(x *big.Int, y *big.Int) *big.Int {
	if y.Sign() == 0 {
		return big.NewInt(0)
	}
	near := new(big.Int).Quo(x, y)
	far := new(big.Int).Add(near, big.NewInt(int64(x.Sign()*y.Sign())))
	off := func(v *big.Int) *big.Rat {
		gap := new(big.Rat).Sub(new(big.Rat).SetFrac(x, y), new(big.Rat).SetInt(v))
		return gap.Abs(gap)
	}
	if off(far).Cmp(off(near)) < 0 {
		return far
	}
	return near
}

func isMultiple(x *big.Int, y *big.Int) bool {
	if y.Sign() == 0 {
		return x.Sign() == 0
	}
	return new(big.Int).Rem(x, y).Sign() == 0
}

func TestIsMultiple(t *testing.T) {
	for _, c := range []struct {
		a, b int64
		want bool
	}{
		{0, 0, true}, {0, 5, true}, {0, -5, true}, {5, 0, false}, {-5, 0, false}, {1, 0, false}, {6, 3, true}, {-6, 3, true}, {6, -3, true}, {-6, -3, true}, {3, 6, false}, {7, 3, false}, {-7, 3, false}, {5, 1, true}, {5, -1, true},
		{1 << 62, 1 << 31, true}, {1<<62 + 1, 1 << 31, false}, {math.MinInt64, math.MinInt64, true}, {math.MinInt64, 3, false},
	} {
		if got := FromInt64(c.a).IsMultiple(FromInt64(c.b)); got != c.want {
			t.Errorf("%d is a multiple of %d: %v", c.a, c.b, got)
		}
	}
}

func TestQuotient(t *testing.T) {
	for _, c := range [][3]int64{
		{7, 2, 3}, {-7, 2, -4}, {7, -2, -4}, {-7, -2, 3}, {6, 2, 3}, {-6, 2, -3}, {6, -2, -3}, {-6, -2, 3},
		{1, 2, 0}, {-1, 2, -1}, {1, -2, -1}, {-1, -2, 0}, {0, 5, 0}, {0, -5, 0}, {5, 0, 0}, {-5, 0, 0}, {0, 0, 0},
		{math.MinInt64, 1, math.MinInt64}, {math.MinInt64, math.MinInt64, 1}, {math.MaxInt64, math.MinInt64, -1}, {1 << 32, 1<<32 - 1, 1},
	} {
		if got := FromInt64(c[0]).Quotient(FromInt64(c[1])); !got.Is(FromInt64(c[2])) {
			t.Errorf("%d by %d = %s, want %d", c[0], c[1], got.Decimal(), c[2])
		}
	}
}

func TestNearest(t *testing.T) {
	for _, c := range [][3]int64{
		{0, 5, 0}, {0, -5, 0}, {5, 0, 0}, {-5, 0, 0}, {0, 0, 0}, {7, 1, 7}, {-7, 1, -7}, {7, -1, -7}, {6, 3, 2}, {-6, 3, -2}, {6, -3, -2}, {-6, -3, 2},
		{1, 3, 0}, {2, 3, 1}, {-1, 3, 0}, {-2, 3, -1}, {1, -3, 0}, {2, -3, -1}, {-2, -3, 1}, {4, 3, 1}, {5, 3, 2}, {-4, 3, -1}, {-5, 3, -2},
		// Halves.
		{1, 2, 0}, {-1, 2, 0}, {1, -2, 0}, {-1, -2, 0}, {3, 2, 1}, {-3, 2, -1}, {3, -2, -1}, {-3, -2, 1}, {5, 2, 2}, {-5, 2, -2}, {9, 6, 1}, {-9, 6, -1},
		{math.MinInt64, 1, math.MinInt64}, {1 << 62, math.MinInt64, 0}, {1<<62 + 1, math.MinInt64, -1}, {1<<62 - 1, math.MinInt64, 0}, {math.MinInt64, math.MinInt64, 1},
	} {
		if got := FromInt64(c[0]).Nearest(FromInt64(c[1])); !got.Is(FromInt64(c[2])) {
			t.Errorf("%d by %d, to the nearest, = %s, want %d", c[0], c[1], got.Decimal(), c[2])
		}
	}
}

func TestIsBelow(t *testing.T) {
	for _, v := range []int64{0, 1, -1, math.MaxInt64, math.MinInt64} {
		if FromInt64(v).IsBelow() != (v < 0) {
			t.Errorf("IsBelow of %d is wrong", v)
		}
	}
}

func TestFromInt64(t *testing.T) {
	for _, v := range []int64{0, 1, -1, 1 << 32, -1 << 32, 1<<48 - 1, math.MaxInt64, math.MinInt64} {
		if got := FromInt64(v).Decimal(); got != big.NewInt(v).String() {
			t.Errorf("FromInt64(%d) = %s", v, got)
		}
	}
}

func TestZeroValue(t *testing.T) {
	zero := Int{}
	for _, a := range []Int{zero, zero.Neg(), zero.Add(zero), FromInt64(5).Sub(FromInt64(5)), FromInt64(-5).Add(FromInt64(5)), FromInt64(-5).Mul(zero), FromDigits("0").Neg(), zero.Quotient(FromInt64(-5)), FromInt64(-5).Quotient(zero), FromInt64(5).Quotient(FromInt64(9)), FromInt64(-4).Nearest(FromInt64(9)), FromInt64(-5).Nearest(zero), zero.Nearest(FromInt64(-5))} {
		if !a.Is(zero) || a.IsBelow() || !a.IsZero() || a.Decimal() != "0" || a.Bits() != 0 {
			t.Errorf("nought is %q with %d bits", a.Decimal(), a.Bits())
		}
	}
}

func TestLongDecimal(t *testing.T) {
	digits := "1" + strings.Repeat("0", 2000) + strings.Repeat("9", 1999)
	if got := FromDigits(digits).Decimal(); got != digits {
		t.Errorf("4,000 digits came back as %d", len(got))
	}
}
