package promises

import (
	"fmt"
	"math/big"
	"strings"
	"testing"
)

// table: a matrix, reckoned with apart from the program.
type table struct {
	rows, cols int
	at         [][]*big.Int
}

func blank(rows int, cols int) table {
	out := table{rows, cols, make([][]*big.Int, rows)}
	for r := range out.at {
		for c := 0; c < cols; c++ {
			out.at[r] = append(out.at[r], big.NewInt(0))
		}
	}
	return out
}

// read: the table that a text of the program's writes.
func read(t *testing.T, text string) table {
	t.Helper()
	rows, cols := 0, 0
	fmt.Sscanf(text, "%dx%d:", &rows, &cols)
	out := blank(rows, cols)
	words := strings.Fields(strings.ReplaceAll(text[strings.Index(text, ":")+1:], ";", ""))
	if len(words) != rows*cols {
		t.Fatalf("P3: %q has %d entries", text, len(words))
	}
	for i, word := range words {
		if _, ok := out.at[i/cols][i%cols].SetString(word, 10); !ok {
			t.Fatalf("P3: %q has the entry %q", text, word)
		}
	}
	if out.text() != text {
		t.Fatalf("P3: %q should be %q", text, out.text())
	}
	return out
}

func (a table) text() string {
	lines := []string{}
	for _, row := range a.at {
		line := ""
		for _, v := range row {
			line += " " + v.String()
		}
		lines = append(lines, line)
	}
	if a.cols == 0 {
		lines = nil
	}
	return fmt.Sprintf("%dx%d:%s", a.rows, a.cols, strings.Join(lines, ";"))
}

func (a table) times(b table) table {
	out := blank(a.rows, b.cols)
	for r, row := range out.at {
		for c, sum := range row {
			for i := 0; i < a.cols; i++ {
				sum.Add(sum, new(big.Int).Mul(a.at[r][i], b.at[i][c]))
			}
		}
	}
	return out
}

func (a table) over(b table) table {
	return table{a.rows + b.rows, a.cols, append(append([][]*big.Int{}, a.at...), b.at...)}
}

// flipped: the columns as rows.
func (a table) flipped() table {
	out := blank(a.cols, a.rows)
	for r, row := range a.at {
		for c, v := range row {
			out.at[c][r].Set(v)
		}
	}
	return out
}

func unit(side int) table {
	out := blank(side, side)
	for i := range out.at {
		out.at[i][i].SetInt64(1)
	}
	return out
}

// fits: whether the program takes it as an operand.
func (a table) fits() bool {
	for _, row := range a.at {
		for _, v := range row {
			if v.BitLen() > 48 {
				return false
			}
		}
	}
	return a.rows <= 4 && a.cols <= 4
}

// divisor: the greatest number that divides all determinants of k rows and k
// columns.
func (a table) divisor(k int) *big.Int {
	all := big.NewInt(0)
	for _, rows := range choices(a.rows, k) {
		for _, cols := range choices(a.cols, k) {
			all.GCD(nil, nil, all, new(big.Int).Abs(a.det(rows, cols)))
		}
	}
	return all
}

// rank: the greatest k with a determinant of k rows and columns that is not 0.
func (a table) rank() int {
	k := min(a.rows, a.cols)
	for a.divisor(k).Sign() == 0 {
		k--
	}
	return k
}

// size: the rank, and the divisor of that many rows and columns. Of two
// matrices, the one's rows among the other's, both span the same just if their
// sizes are the same.
func (a table) size() string {
	k := a.rank()
	return fmt.Sprint(k, " ", a.divisor(k))
}

// spans: whether a spans all rows of b.
func (a table) spans(b table) bool { return a.size() == a.over(b).size() }

// choices: all ways of choosing k of n.
func choices(n int, k int) [][]int {
	if k == 0 {
		return [][]int{{}}
	}
	out := [][]int{}
	for last := k - 1; last < n; last++ {
		for _, rest := range choices(last, k-1) {
			out = append(out, append(append([]int{}, rest...), last))
		}
	}
	return out
}

// det: the determinant of these rows and columns.
func (a table) det(rows []int, cols []int) *big.Int {
	if len(rows) == 0 {
		return big.NewInt(1)
	}
	sum := big.NewInt(0)
	for i, c := range cols {
		rest := append(append([]int{}, cols[:i]...), cols[i+1:]...)
		part := new(big.Int).Mul(a.at[rows[0]][c], a.det(rows[1:], rest))
		if i%2 == 1 {
			part.Neg(part)
		}
		sum.Add(sum, part)
	}
	return sum
}

// fault: what P8 says of a row form that does not hold of a, or nothing. With
// bare, no row of noughts may stand there.
func (a table) fault(bare bool) string {
	last := -1
	for r, row := range a.at {
		pivot := 0
		for pivot < a.cols && row[pivot].Sign() == 0 {
			pivot++
		}
		if pivot == a.cols {
			if bare {
				return fmt.Sprintf("row %d is noughts", r)
			}
			last = a.cols
			continue
		}
		if last == a.cols {
			return fmt.Sprintf("row %d stands behind noughts", r)
		}
		if pivot <= last {
			return fmt.Sprintf("the pivot of row %d is not further right", r)
		}
		if row[pivot].Sign() < 0 {
			return fmt.Sprintf("the pivot of row %d is below 0", r)
		}
		for above := 0; above < r; above++ {
			if v := a.at[above][pivot]; v.Sign() < 0 || v.Cmp(row[pivot]) >= 0 {
				return fmt.Sprintf("above the pivot of row %d stands %s", r, v)
			}
		}
		last = pivot
	}
	return ""
}

// diagonalFault: what P10 says of a diagonal form that does not hold of a, or
// nothing.
func (a table) diagonalFault() string {
	ahead := big.NewInt(1)
	for r, row := range a.at {
		for c, v := range row {
			if r != c && v.Sign() != 0 {
				return fmt.Sprintf("off the diagonal stands %s", v)
			}
			if r != c {
				continue
			}
			if v.Sign() < 0 {
				return fmt.Sprintf("on the diagonal stands %s", v)
			}
			if ahead.Sign() == 0 && v.Sign() != 0 {
				return fmt.Sprintf("%s is no multiple of 0", v)
			}
			if ahead.Sign() != 0 && new(big.Int).Rem(v, ahead).Sign() != 0 {
				return fmt.Sprintf("%s is no multiple of %s", v, ahead)
			}
			ahead = v
		}
	}
	return ""
}

// dot: the sum of the products of entries.
func dot(a []*big.Rat, b []*big.Rat) *big.Rat {
	sum := new(big.Rat)
	for i := range a {
		sum.Add(sum, new(big.Rat).Mul(a[i], b[i]))
	}
	return sum
}

// shortFault: what P13 says of short rows that does not hold of a, or nothing.
// It goes by the words of P13: r* and m are fractions.
func (a table) shortFault() string {
	half, stars := big.NewRat(1, 2), [][]*big.Rat{}
	for i, row := range a.at {
		whole, star := []*big.Rat{}, []*big.Rat{}
		for _, v := range row {
			whole = append(whole, new(big.Rat).SetInt(v))
			star = append(star, new(big.Rat).SetInt(v))
		}
		last := new(big.Rat)
		for k, q := range stars {
			last = new(big.Rat).Quo(dot(whole, q), dot(q, q))
			if new(big.Rat).Abs(last).Cmp(half) > 0 {
				return fmt.Sprintf("m of the rows %d and %d is %s", i, k, last)
			}
			for c := range star {
				star[c].Sub(star[c], new(big.Rat).Mul(last, q[c]))
			}
		}
		if dot(star, star).Sign() == 0 {
			return fmt.Sprintf("row %d is a sum of fractions of those ahead", i)
		}
		if i > 0 {
			least := new(big.Rat).Sub(big.NewRat(3, 4), new(big.Rat).Mul(last, last))
			least.Mul(least, dot(stars[i-1], stars[i-1]))
			if dot(star, star).Cmp(least) < 0 {
				return fmt.Sprintf("row %d has %s, less than %s", i, dot(star, star), least)
			}
		}
		stars = append(stars, star)
	}
	return ""
}
