// Package whole: whole numbers of any size, reckoned exactly.
package whole

import "strconv"

// Int is a whole number; the zero value is 0. The limbs of an Int are never
// written to once it is made, so that copies may share them.
type Int struct {
	below bool     // less than 0
	limbs []uint32 // the amount in base 2^32, lowest first, the last not 0
}

const limbBits = 32

// chunk is the greatest power of ten that a limb holds: decimals are made
// nine digits at a time.
const (
	chunk       = 1000000000
	chunkDigits = 9
)

// FromInt64 is v as an Int.
func FromInt64(v int64) Int {
	amount := uint64(v)
	if v < 0 {
		amount = -amount // wraps, and so is right for the least int64 too
	}
	limbs := []uint32{uint32(amount), uint32(amount >> limbBits)}
	return Int{below: v < 0, limbs: trim(limbs)}
}

// FromDigits is the number that a run of decimal digits writes. The caller
// has seen to it that every byte is a digit.
func FromDigits(digits string) Int {
	limbs := []uint32{}
	for i := 0; i < len(digits); i++ {
		carry := uint64(digits[i] - '0')
		for j := 0; j < len(limbs); j++ {
			carry += uint64(limbs[j]) * 10
			limbs[j] = uint32(carry)
			carry >>= limbBits
		}
		if carry > 0 {
			limbs = append(limbs, uint32(carry))
		}
	}
	return Int{limbs: limbs}
}

// IsZero tells whether a is 0.
func (a Int) IsZero() bool { return len(a.limbs) == 0 }

// IsBelow tells whether a is less than 0.
func (a Int) IsBelow() bool { return a.below }

// Is tells whether a and b are the same number.
func (a Int) Is(b Int) bool {
	return a.below == b.below && sameAmount(a.limbs, b.limbs)
}

// IsSmaller tells whether a is less than b in amount.
func (a Int) IsSmaller(b Int) bool { return lessAmount(a.limbs, b.limbs) }

// Bits tells how many bits the amount of a has (0 has none).
func (a Int) Bits() int { return bitsOf(a.limbs) }

// Neg is 0 - a.
func (a Int) Neg() Int {
	return Int{below: !a.below && !a.IsZero(), limbs: a.limbs}
}

// Add is a + b.
func (a Int) Add(b Int) Int {
	if a.below == b.below {
		return Int{below: a.below, limbs: addAmounts(a.limbs, b.limbs)}
	}
	if lessAmount(a.limbs, b.limbs) {
		return Int{below: b.below, limbs: subAmounts(b.limbs, a.limbs)}
	}
	limbs := subAmounts(a.limbs, b.limbs)
	return Int{below: a.below && len(limbs) > 0, limbs: limbs}
}

// Sub is a - b.
func (a Int) Sub(b Int) Int {
	less := b.Neg()
	return a.Add(less)
}

// Mul is a times b.
func (a Int) Mul(b Int) Int {
	limbs := mulAmounts(a.limbs, b.limbs)
	return Int{below: a.below != b.below && len(limbs) > 0, limbs: limbs}
}

// Quotient is a divided by b, rounded down (0, if b is 0).
func (a Int) Quotient(b Int) Int {
	if b.IsZero() {
		return Int{}
	}
	limbs, left := divAmounts(a.limbs, b.limbs)
	if a.below == b.below {
		return Int{limbs: limbs}
	}
	if len(left) > 0 {
		limbs = addAmounts(limbs, []uint32{1})
	}
	return Int{below: len(limbs) > 0, limbs: limbs}
}

// Nearest is the whole number nearest to a divided by b; of two that are as
// near, the smaller in amount (0, if b is 0).
func (a Int) Nearest(b Int) Int {
	if b.IsZero() {
		return Int{}
	}
	down := a.Quotient(b)
	left := a.Sub(down.Mul(b))
	twice := left.Add(left)
	if b.IsSmaller(twice) || (down.IsBelow() && twice.Is(b)) {
		return down.Add(FromInt64(1))
	}
	return down
}

// IsMultiple tells whether a is a multiple of b (0 is one of all; of 0 only 0
// is).
func (a Int) IsMultiple(b Int) bool {
	_, left := divAmounts(a.limbs, b.limbs)
	return len(left) == 0
}

// Decimal is a in decimal, with "-" ahead if it is below 0.
func (a Int) Decimal() string {
	if a.IsZero() {
		return "0"
	}
	text := ""
	rest := a.limbs
	for len(rest) > 0 {
		higher, low := splitChunk(rest)
		part := strconv.FormatUint(low, 10)
		for len(higher) > 0 && len(part) < chunkDigits {
			part = "0" + part
		}
		text = part + text
		rest = higher
	}
	if a.below {
		return "-" + text
	}
	return text
}

// trim drops the noughts at the high end.
func trim(limbs []uint32) []uint32 {
	n := len(limbs)
	for n > 0 && limbs[n-1] == 0 {
		n--
	}
	return limbs[:n]
}

func bitsOf(limbs []uint32) int {
	n := len(limbs)
	if n == 0 {
		return 0
	}
	bits := (n - 1) * limbBits
	for top := limbs[n-1]; top > 0; top >>= 1 {
		bits++
	}
	return bits
}

func sameAmount(a []uint32, b []uint32) bool {
	if len(a) != len(b) {
		return false
	}
	for i := 0; i < len(a); i++ {
		if a[i] != b[i] {
			return false
		}
	}
	return true
}

func lessAmount(a []uint32, b []uint32) bool {
	if len(a) != len(b) {
		return len(a) < len(b)
	}
	for i := len(a) - 1; i >= 0; i-- {
		if a[i] != b[i] {
			return a[i] < b[i]
		}
	}
	return false
}

// limbAt reads a limb; past the high end all are 0.
func limbAt(limbs []uint32, i int) uint64 {
	if i < 0 || i >= len(limbs) {
		return 0
	}
	return uint64(limbs[i])
}

func addAmounts(a []uint32, b []uint32) []uint32 {
	size := len(a) + 1
	if len(b) > len(a) {
		size = len(b) + 1
	}
	sum := make([]uint32, size)
	carry := uint64(0)
	for i := 0; i < size; i++ {
		carry += limbAt(a, i) + limbAt(b, i)
		sum[i] = uint32(carry)
		carry >>= limbBits
	}
	return trim(sum)
}

// subAmounts is a - b; b is not the greater.
func subAmounts(a []uint32, b []uint32) []uint32 {
	rest := make([]uint32, len(a))
	borrow := uint64(0)
	for i := 0; i < len(a); i++ {
		have := uint64(a[i])
		take := limbAt(b, i) + borrow
		borrow = 0
		if have < take {
			have += 1 << limbBits
			borrow = 1
		}
		rest[i] = uint32(have - take)
	}
	return trim(rest)
}

func mulAmounts(a []uint32, b []uint32) []uint32 {
	product := make([]uint32, len(a)+len(b))
	for i := 0; i < len(a); i++ {
		carry := uint64(0)
		for j := 0; j < len(b); j++ {
			carry += uint64(a[i])*uint64(b[j]) + uint64(product[i+j])
			product[i+j] = uint32(carry)
			carry >>= limbBits
		}
		product[i+len(b)] = uint32(carry)
	}
	return trim(product)
}

// divAmounts divides a by b: the quotient and what is left (0 and a, if b is
// 0). It goes bit by bit: most quotients here are short.
func divAmounts(a []uint32, b []uint32) ([]uint32, []uint32) {
	width := bitsOf(b)
	if width == 0 {
		return []uint32{}, a
	}
	quotient := make([]uint32, len(a))
	left := a
	for place := bitsOf(a) - width; place >= 0; place-- {
		part := shiftAmount(b, place)
		if !lessAmount(left, part) {
			left = subAmounts(left, part)
			quotient[place/limbBits] |= 1 << uint(place%limbBits)
		}
	}
	return trim(quotient), left
}

// shiftAmount is a times 2 to the places.
func shiftAmount(a []uint32, places int) []uint32 {
	skip := places / limbBits
	shift := uint(places % limbBits)
	shifted := make([]uint32, len(a)+skip+1)
	carry := uint64(0)
	for i := 0; i < len(a); i++ {
		carry |= uint64(a[i]) << shift
		shifted[i+skip] = uint32(carry)
		carry >>= limbBits
	}
	shifted[len(a)+skip] = uint32(carry)
	return trim(shifted)
}

// splitChunk divides by chunk: the quotient and what is left.
func splitChunk(limbs []uint32) ([]uint32, uint64) {
	quotient := make([]uint32, len(limbs))
	left := uint64(0)
	for i := len(limbs) - 1; i >= 0; i-- {
		left = left<<limbBits | uint64(limbs[i])
		quotient[i] = uint32(left / chunk)
		left = left % chunk
	}
	return trim(quotient), left
}
