// Package promises: tests of DOC.md's promises, through the calls alone.
package promises

import (
	"fmt"
	"math/rand"
	"strings"
	"testing"

	"matrices/api"
	"matrices/matrices"
)

const (
	most     = "281474976710655"      // 2^48 - 1
	overMost = "281474976710656"      // 2^48
	bound    = int64(1)<<48 - 1       // most, as a number
	half     = "16777216"             // 2^24: its square is overMost
	farLow   = -int(^uint(0)>>1) - 1  // the least int
	farHigh  = int(^uint(0) >> 1)     // the greatest int
	reach    = api.MaxHandles*2 + 100 // handles that the small tests can come to
)

// desk: a store, and what a test does with it.
type desk struct {
	t *testing.T
	s *matrices.Store
}

func start(t *testing.T) desk { return desk{t, matrices.New()} }

func (d desk) put(text string) int {
	d.t.Helper()
	h, e := d.s.Type(text)
	if e != api.OK {
		d.t.Fatalf("P3: Type(%q) = %d, %d", text, h, e)
	}
	return h
}

func (d desk) show(h int) string {
	d.t.Helper()
	text, e := d.s.Show(h)
	if e != api.OK {
		d.t.Fatalf("P4: Show(%d) = %q, %d", h, text, e)
	}
	return text
}

func (d desk) free(h int) {
	d.t.Helper()
	if e := d.s.Free(h); e != api.OK {
		d.t.Fatalf("P4: Free(%d) = %d", h, e)
	}
}

func (d desk) times(g int, h int) int {
	d.t.Helper()
	k, e := d.s.Times(g, h)
	if e != api.OK {
		d.t.Fatalf("P6: Times(%d, %d) = %d, %d", g, h, k, e)
	}
	return k
}

// great: the handle of a 1x1 matrix of 2^48, which no text can give.
func (d desk) great() int {
	d.t.Helper()
	g := d.put("1x1: " + half)
	k := d.times(g, g)
	d.free(g)
	if got := d.show(k); got != "1x1: "+overMost {
		d.t.Fatalf("P6: 2^24 times 2^24 = %q", got)
	}
	return k
}

// tallGreat: the handle of 2x1: -2^24; -2^48.
func (d desk) tallGreat() int {
	d.t.Helper()
	g, h := d.put("2x1: 1; "+half), d.put("1x1: -"+half)
	k := d.times(g, h)
	d.free(g)
	d.free(h)
	return k
}

// fill: types matrices until 24 are held; the handle of the last.
func (d desk) fill() int {
	d.t.Helper()
	last := -1
	for i := len(d.held()); i < 24; i++ {
		last = d.put("1x1: 3")
	}
	return last
}

// held: what is held, as "handle text".
func (d desk) held() []string {
	out := []string{}
	for h := -2; h < reach; h++ {
		if text, e := d.s.Show(h); e == api.OK {
			out = append(out, fmt.Sprint(h, " ", text))
		}
	}
	return out
}

// unchanged: runs calls that must change nothing, and looks whether what is
// held is the same afterwards.
func (d desk) unchanged(calls func()) {
	d.t.Helper()
	before := strings.Join(d.held(), "\n")
	calls()
	if after := strings.Join(d.held(), "\n"); after != before {
		d.t.Errorf("P1: what is held was changed from\n%s\nto\n%s", before, after)
	}
}

// echelon: the handles of H, U and W; looks that the list is as P2 says and the
// handles as P4 says.
func (d desk) echelon(h int) []int {
	d.t.Helper()
	l, e := d.s.Echelon(h)
	if e != api.OK || len(l) != 3 || cap(l) != 3 {
		d.t.Fatalf("P2, P8: Echelon(%d) = %v (room for %d), %d", h, l, cap(l), e)
	}
	if l[0] < 0 || l[1] != l[0]+1 || l[2] != l[0]+2 {
		d.t.Fatalf("P4, P8: Echelon(%d) = %v: the handles are not in order", h, l)
	}
	return l
}

// member: the handle of c, or -1, if the row is not spanned.
func (d desk) member(g int, h int) int {
	d.t.Helper()
	yes, k, e := d.s.Member(g, h)
	if e != api.OK || yes != (k >= 0) || k < -1 {
		d.t.Fatalf("P9: Member(%d, %d) = %v, %d, %d", g, h, yes, k, e)
	}
	return k
}

func (d desk) equal(g int, h int) bool {
	d.t.Helper()
	yes, e := d.s.Equal(g, h)
	if e != api.OK {
		d.t.Fatalf("P9: Equal(%d, %d) = %v, %d", g, h, yes, e)
	}
	return yes
}

func (d desk) sum(g int, h int) int {
	d.t.Helper()
	k, e := d.s.Sum(g, h)
	if e != api.OK {
		d.t.Fatalf("P9: Sum(%d, %d) = %d, %d", g, h, k, e)
	}
	return k
}

// diagonal: the handles of D, U, S, V and T; looks at the list as echelon does.
func (d desk) diagonal(h int) []int {
	d.t.Helper()
	l, e := d.s.Diagonal(h)
	if e != api.OK || len(l) != 5 || cap(l) != 5 {
		d.t.Fatalf("P2, P10: Diagonal(%d) = %v (room for %d), %d", h, l, cap(l), e)
	}
	for i, k := range l {
		if l[0] < 0 || k != l[0]+i {
			d.t.Fatalf("P4, P10: Diagonal(%d) = %v: the handles are not in order", h, l)
		}
	}
	return l
}

func (d desk) index(h int) string {
	d.t.Helper()
	n, e := d.s.Index(h)
	if e != api.OK {
		d.t.Fatalf("P11: Index(%d) = %q, %d", h, n, e)
	}
	return n
}

// solve: the handles of x and K, or nil, if there is no solution; looks at the
// list as echelon does.
func (d desk) solve(g int, h int) []int {
	d.t.Helper()
	yes, l, e := d.s.Solve(g, h)
	if e != api.OK || yes != (l != nil) {
		d.t.Fatalf("P12: Solve(%d, %d) = %v, %v, %d", g, h, yes, l, e)
	}
	if yes && (len(l) != 2 || cap(l) != 2) {
		d.t.Fatalf("P2, P12: Solve(%d, %d) = %v (room for %d)", g, h, l, cap(l))
	}
	if yes && (l[0] < 0 || l[1] != l[0]+1) {
		d.t.Fatalf("P4, P12: Solve(%d, %d) = %v: the handles are not in order", g, h, l)
	}
	return l
}

// reduce: the handles of R and T; looks at the list as echelon does.
func (d desk) reduce(h int) []int {
	d.t.Helper()
	l, e := d.s.Reduce(h)
	if e != api.OK || len(l) != 2 || cap(l) != 2 {
		d.t.Fatalf("P2, P13: Reduce(%d) = %v (room for %d), %d", h, l, cap(l), e)
	}
	if l[0] < 0 || l[1] != l[0]+1 {
		d.t.Fatalf("P4, P13: Reduce(%d) = %v: the handles are not in order", h, l)
	}
	return l
}

// The ones below: a refusal with the error e is due, and the answer that P1 says.

func (d desk) refuseType(text string, e api.Errno) {
	d.t.Helper()
	if h, got := d.s.Type(text); h != -1 || got != e {
		d.t.Errorf("P3: Type(%.60q) = %d, %d, want -1, %d", text, h, got, e)
	}
}

func (d desk) refuseTimes(g int, h int, e api.Errno) {
	d.t.Helper()
	if k, got := d.s.Times(g, h); k != -1 || got != e {
		d.t.Errorf("P5, P6: Times(%d, %d) = %d, %d, want -1, %d", g, h, k, got, e)
	}
}

func (d desk) refuseDet(h int, e api.Errno) {
	d.t.Helper()
	if text, got := d.s.Det(h); text != "" || got != e {
		d.t.Errorf("P5, P7: Det(%d) = %q, %d, want nothing, %d", h, text, got, e)
	}
}

func (d desk) refuseRank(h int, e api.Errno) {
	d.t.Helper()
	if r, got := d.s.Rank(h); r != -1 || got != e {
		d.t.Errorf("P5, P7: Rank(%d) = %d, %d, want -1, %d", h, r, got, e)
	}
}

func (d desk) refuseEchelon(h int, e api.Errno) {
	d.t.Helper()
	if l, got := d.s.Echelon(h); l != nil || got != e {
		d.t.Errorf("P5, P8: Echelon(%d) = %v, %d, want nil, %d", h, l, got, e)
	}
}

func (d desk) refuseMember(g int, h int, e api.Errno) {
	d.t.Helper()
	if yes, k, got := d.s.Member(g, h); yes || k != -1 || got != e {
		d.t.Errorf("P5, P9: Member(%d, %d) = %v, %d, %d, want false, -1, %d", g, h, yes, k, got, e)
	}
}

func (d desk) refuseEqual(g int, h int, e api.Errno) {
	d.t.Helper()
	if yes, got := d.s.Equal(g, h); yes || got != e {
		d.t.Errorf("P5, P9: Equal(%d, %d) = %v, %d, want false, %d", g, h, yes, got, e)
	}
}

func (d desk) refuseSum(g int, h int, e api.Errno) {
	d.t.Helper()
	if k, got := d.s.Sum(g, h); k != -1 || got != e {
		d.t.Errorf("P5, P9: Sum(%d, %d) = %d, %d, want -1, %d", g, h, k, got, e)
	}
}

func (d desk) refuseDiagonal(h int, e api.Errno) {
	d.t.Helper()
	if l, got := d.s.Diagonal(h); l != nil || got != e {
		d.t.Errorf("P5, P10: Diagonal(%d) = %v, %d, want nil, %d", h, l, got, e)
	}
}

func (d desk) refuseIndex(h int, e api.Errno) {
	d.t.Helper()
	if n, got := d.s.Index(h); n != "" || got != e {
		d.t.Errorf("P5, P11: Index(%d) = %q, %d, want nothing, %d", h, n, got, e)
	}
}

func (d desk) refuseSolve(g int, h int, e api.Errno) {
	d.t.Helper()
	if yes, l, got := d.s.Solve(g, h); yes || l != nil || got != e {
		d.t.Errorf("P5, P12: Solve(%d, %d) = %v, %v, %d, want false, nil, %d", g, h, yes, l, got, e)
	}
}

func (d desk) refuseReduce(h int, e api.Errno) {
	d.t.Helper()
	if l, got := d.s.Reduce(h); l != nil || got != e {
		d.t.Errorf("P5, P13: Reduce(%d) = %v, %d, want nil, %d", h, l, got, e)
	}
}

// write: rows of numbers as text, made without the program.
func write(rows int, cols int, entries [][]int64) string {
	lines := []string{}
	for _, row := range entries {
		line := ""
		for _, v := range row {
			line += fmt.Sprintf(" %d", v)
		}
		lines = append(lines, line)
	}
	if cols == 0 {
		lines = nil
	}
	return fmt.Sprintf("%dx%d:%s", rows, cols, strings.Join(lines, ";"))
}

// anyMatrix: entries at random, of one of several ranges; many noughts in some,
// rows that hang on one another in some.
func anyMatrix(source *rand.Rand, rows int, cols int) [][]int64 {
	limit := []int64{1, 2, 9, 1 << 20, 1<<32 + 1, bound}[source.Intn(6)]
	sparse := source.Intn(3) == 0
	out := make([][]int64, rows)
	for r := range out {
		out[r] = make([]int64, cols)
		for c := range out[r] {
			out[r][c] = source.Int63n(2*limit+1) - limit
			if limit > 9 && source.Intn(4) == 0 {
				out[r][c] = []int64{limit, -limit, limit - 1, 0}[source.Intn(4)]
			}
			if sparse && source.Intn(2) == 0 {
				out[r][c] = 0
			}
		}
	}
	if rows > 1 && source.Intn(3) == 0 {
		bind(source, out)
	}
	return out
}

// bind: makes one row the negative of another, or, where no entry grows too
// great, the sum of two.
func bind(source *rand.Rand, rows [][]int64) {
	order := source.Perm(len(rows))
	target, first, second := rows[order[0]], rows[order[1]], rows[order[len(order)-1]]
	sums := len(rows) > 2
	for c := range first {
		sum := first[c] + second[c]
		sums = sums && sum <= bound && sum >= -bound
	}
	for c := range target {
		target[c] = -first[c]
		if sums {
			target[c] = first[c] + second[c]
		}
	}
}
