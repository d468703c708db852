// Package notation: matrices as texts (P3).
package notation

import (
	"strconv"

	"matrices/grid"
	"matrices/whole"
)

// reader goes through a text once; bad stays set from the first fault on.
type reader struct {
	text string
	at   int
	bad  bool
}

// Read is the matrix that a text writes, and whether it writes one.
func Read(text string) (grid.Matrix, bool) {
	r := &reader{text: text}
	rows := r.side()
	r.want('x')
	cols := r.side()
	r.want(':')
	cells := r.entries(rows, cols)
	if r.bad || r.at != len(text) {
		return grid.Matrix{}, false
	}
	return grid.FromCells(rows, cols, cells), true
}

// Write is a matrix as text.
func Write(m grid.Matrix) string {
	text := strconv.Itoa(m.Rows()) + "x" + strconv.Itoa(m.Cols()) + ":"
	for r := 0; r < m.Rows(); r++ {
		for c := 0; c < m.Cols(); c++ {
			if r > 0 && c == 0 {
				text += ";"
			}
			text += " " + m.At(r, c).Decimal()
		}
	}
	return text
}

// entries stops at the first fault, so that sides which promise much more than
// the text holds cost nothing.
func (r *reader) entries(rows int, cols int) []whole.Int {
	cells := []whole.Int{}
	for row := 0; row < rows; row++ {
		for col := 0; col < cols && !r.bad; col++ {
			if row > 0 && col == 0 {
				r.want(';')
			}
			r.want(' ')
			entry := r.entry()
			cells = append(cells, entry)
		}
	}
	return cells
}

func (r *reader) entry() whole.Int {
	if !r.sees('-') {
		digits := r.digits()
		return whole.FromDigits(digits)
	}
	r.at++
	digits := r.digits()
	if digits == "0" {
		r.bad = true
	}
	return whole.FromDigits(digits).Neg()
}

func (r *reader) side() int {
	digits := r.digits()
	side := 0
	for i := 0; i < len(digits) && side <= grid.MaxSide; i++ {
		side = side*10 + int(digits[i]-'0')
	}
	if side > grid.MaxSide {
		r.bad = true
		return 0
	}
	return side
}

// digits takes a run of digits: at least one, and no nought ahead of others.
func (r *reader) digits() string {
	start := r.at
	for r.at < len(r.text) && r.text[r.at] >= '0' && r.text[r.at] <= '9' {
		r.at++
	}
	run := r.text[start:r.at]
	if len(run) == 0 || (len(run) > 1 && run[0] == '0') {
		r.bad = true
	}
	return run
}

func (r *reader) want(c byte) {
	if r.sees(c) {
		r.at++
		return
	}
	r.bad = true
}

func (r *reader) sees(c byte) bool {
	return r.at < len(r.text) && r.text[r.at] == c
}
