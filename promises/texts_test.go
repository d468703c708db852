package promises

import (
	"fmt"
	"math/big"
	"math/rand"
	"regexp"
	"strings"
	"testing"

	"matrices/api"
	"matrices/matrices"
)

func TestP3TextsThatAreNone(t *testing.T) {
	d := start(t)
	for _, text := range []string{
		"", "1x1", "1x1:", "1x1: ", "1x1: 01", "1x1: -0", "1x1: +1", "1x1:1", "01x1: 1", "1x2: 1; 2", "2x1: 1 2", "2x1: 1;2", "1x1: 1 ", "0x0: ",
		"x", ":", "x:", "1", "1x", "1:", "1x:", "x1:", "x1: 1", "1x: 1", "1x1;", "1 x1: 1", "1x 1: 1", "1x1 : 1", " 1x1: 1", "1X1: 1", "1*1: 1", "1x1x1: 1",
		"1x1:  1", "1x1:\t1", "1x1: 1\n", "1x1: 1\x00", "\x001x1: 1", "1x1\n: 1", "\n1x1: 1", "\ufeff1x1: 1", "1x1: \u0661", "1x1: \uff11", "1\u00d71: 1", "1x1:\u00a01",
		"1x1: 1;", "1x1: ;1", "1x1:; 1", "1x1: 1; 2", "1x1: 1 2", "1x2: 1", "1x2: 1 2 3", "1x2: 1 2; 3 4", "1x2: 1,2", "1x2: 1  2",
		"2x1: 1", "2x1: 1;", "2x1: 1; ", "2x1: 1 ; 2", "2x1: 1;  2", "2x1: 1; 2;", "2x1: 1; 2; 3", "2x1:; 1; 2", "2x1: 1;; 2", "2x1: 1\n2",
		"2x2: 1 2 3 4", "2x2: 1 2; 3", "2x2: 1; 2 3 4", "2x2: 1 2 3; 4", "2x2: 1 2; 3 4;", "2x2: 1 2; 3 4; 5 6", "2x2: 1; 2; 3; 4", "2x2: 1 2;3 4", "2x2: 1 2",
		"0x0:;", "2x0:;", "2x0: ", "2x0: ;", "0x2: 1", "0x2: 1 2", "0x2: ", "2x0: 1; 2", "0x0: 0",
		"1x1: 00", "1x1: -00", "1x1: -01", "1x1: --1", "1x1: -", "1x1: - 1", "1x1: 1-", "1x1: 1-1", "1x1: 1x", "1x1: 0x1", "1x1: 1.0", "1x1: 1e3", "1x1: 1_0", "1x1: a", "1x1: +0", "1x1: 0 0", "1x2: 0 -0", "1x2: -0 0", "1x2: 1 02",
		"-1x0:", "0x-1:", "-0x0:", "0x-0:", "+1x1: 1", "00x0:", "0x00:", "0x01:", "1x01: 1", "001x1: 1",
		"100x0:", "0x100:", "100x100:", "999x0:", "0x4294967296:", "4294967297x1: 1", "18446744073709551616x0:", "18446744073709551617x1: 1", "1x18446744073709551617: 1",
	} {
		d.refuseType(text, api.ErrSyntax)
	}
	if h := d.put("0x0:"); h != 0 {
		t.Errorf("P1, P4: the first handle, behind refusals, is %d", h)
	}
}

func TestP3TextsThatAreTooBig(t *testing.T) {
	d := start(t)
	for _, text := range []string{
		"0x5:", "5x0:", "5x5:" + strings.Repeat(" 1 1 1 1 1;", 4) + " 1 1 1 1 1", "0x99:", "99x0:", "0x10:", "10x0:",
		"1x5: 1 2 3 4 5", "5x1: 1; 2; 3; 4; 5", "4x5:" + strings.Repeat(" 0 0 0 0 0;", 3) + " 0 0 0 0 0", "5x4:" + strings.Repeat(" 0 0 0 0;", 4) + " 0 0 0 0",
		"1x99:" + strings.Repeat(" 1", 99), "99x1: 1" + strings.Repeat("; 1", 98),
		"1x1: " + overMost, "1x1: -" + overMost, "1x2: 0 " + overMost, "2x1: -" + overMost + "; 0", "2x2: 1 2; 3 -" + overMost, "4x4:" + strings.Repeat(" 0 0 0 0;", 3) + " 0 0 0 " + overMost,
		"1x1: 281474976710657", "1x1: 1000000000000000", "1x1: 2147483648000000000", "1x1: 4294967296000000000",
		"1x1: 9223372036854775807", "1x1: 9223372036854775808", "1x1: -9223372036854775808", "1x1: -9223372036854775809",
		"1x1: 18446744073709551615", "1x1: 18446744073709551616", "1x1: 18446744073709551617", "1x1: -18446744073709551617", "1x1: 340282366920938463463374607431768211457",
	} {
		d.refuseType(text, api.ErrTooBig)
	}
	// A text that is none is told so, however great what it names.
	for _, text := range []string{"0x5: ", "5x1: 1; 2; 3; 4", "5x1: 1; 2; 3; 4; 5;", "1x99: 1", "99x99: 1", "99x99:", "5x0: 1", "1x1: " + overMost + " ", "1x2: " + overMost, "1x1: 0" + overMost, "1x2: " + overMost + " -0", "1x5: 1 2 3 4 05"} {
		d.refuseType(text, api.ErrSyntax)
	}
	if h := d.put("0x0:"); h != 0 {
		t.Errorf("P1, P4: the first handle, behind refusals, is %d", h)
	}
}

func TestP3TextsThatAreFine(t *testing.T) {
	d := start(t)
	for i, text := range []string{
		"0x0:", "0x1:", "0x4:", "1x0:", "4x0:", "1x1: 0", "1x1: 9", "1x1: -9", "1x1: 10", "1x1: 100000000000000", "1x1: " + most, "1x1: -" + most,
		"2x3: 1 2 3; 4 5 -6", "4x1: 1; -2; 3; -4", "1x4: 0 -1 0 -1",
		"4x4: -" + most + " 0 0 1; 0 " + most + " -1 4294967296; 4294967295 -4294967296 10 20; 30 40 50 " + most,
	} {
		h, e := d.s.Type(text)
		if h != i || e != api.OK {
			t.Fatalf("P3, P4: Type(%q) = %d, %d, want %d, 0", text, h, e, i)
		}
		if got := d.show(h); got != text {
			t.Errorf("P4: Show of %q = %q", text, got)
		}
	}
}

func TestP3Length(t *testing.T) {
	d := start(t)
	for _, c := range []struct {
		text string
		size int
		e    api.Errno
	}{
		{"1x1: " + strings.Repeat("9", 3995), 4000, api.ErrTooBig},
		{"1x1: -" + strings.Repeat("9", 3994), 4000, api.ErrTooBig},
		{"1x1: " + strings.Repeat("9", 3996), 4001, api.ErrSyntax},
		{"1x1: -" + strings.Repeat("9", 3995), 4001, api.ErrSyntax},
		{"20x95:" + strings.Repeat(strings.Repeat(" 1", 95)+";", 19) + strings.Repeat(" 1", 94) + " " + strings.Repeat("1", 176), 4000, api.ErrTooBig},
		{"20x95:" + strings.Repeat(strings.Repeat(" 1", 95)+";", 19) + strings.Repeat(" 1", 94) + " " + strings.Repeat("1", 177), 4001, api.ErrSyntax},
		{"1x1: 1" + strings.Repeat(" ", 3994), 4000, api.ErrSyntax},
		{strings.Repeat("1", 4000), 4000, api.ErrSyntax},
		{"1x1: 1" + strings.Repeat("\x00", 1<<20), 1<<20 + 6, api.ErrSyntax},
	} {
		if len(c.text) != c.size {
			t.Fatalf("the test is wrong: %d bytes, want %d", len(c.text), c.size)
		}
		d.refuseType(c.text, c.e)
	}
}

var (
	headForm   = regexp.MustCompile(`^(0|[1-9][0-9]?)x(0|[1-9][0-9]?):`)
	numberForm = regexp.MustCompile(`^(0|-?[1-9][0-9]*)$`)
)

// judge: what Type has to say of a text, found in another way.
func judge(text string) api.Errno {
	head := headForm.FindStringSubmatch(text)
	if head == nil || len(text) > 4000 {
		return api.ErrSyntax
	}
	rows, cols := 0, 0
	fmt.Sscan(head[1], &rows)
	fmt.Sscan(head[2], &cols)
	rest := text[len(head[0]):]
	great := rows > 4 || cols > 4
	if rows == 0 || cols == 0 {
		if rest != "" {
			return api.ErrSyntax
		}
		rows = 0
	}
	lines := strings.Split(rest, ";")
	if rows > 0 && len(lines) != rows {
		return api.ErrSyntax
	}
	for _, line := range lines[:rows] {
		words := strings.Split(line, " ")
		if len(words) != cols+1 || words[0] != "" {
			return api.ErrSyntax
		}
		for _, word := range words[1:] {
			if !numberForm.MatchString(word) {
				return api.ErrSyntax
			}
			v, _ := new(big.Int).SetString(word, 10)
			great = great || v.BitLen() > 48
		}
	}
	if great {
		return api.ErrTooBig
	}
	return api.OK
}

func TestP3TextsWithFaultsAtRandom(t *testing.T) {
	const alphabet = "0012345679-x:; ;  +\n"
	seeds := []string{"0x0:", "2x0:", "0x3:", "1x1: -7", "2x3: 1 2 3; 4 5 -6", "3x1: 10; 0; -20", "2x2: " + most + " 0; -" + most + " 5", "5x1: 1; 2; 3; 4; 5", "1x1: " + overMost, "1x12: 1 2 3 4 5 6 7 8 9 0 1 2"}
	source := rand.New(rand.NewSource(3))
	d := start(t)
	seen := [6]int{}
	for i := 0; i < 60000; i++ {
		text := seeds[source.Intn(len(seeds))]
		for n := source.Intn(3); n >= 0; n-- {
			at := source.Intn(len(text) + 1)
			end := at + source.Intn(2)
			letter := source.Intn(len(alphabet))
			if end > len(text) {
				end = len(text)
			}
			text = text[:at] + alphabet[letter:letter+source.Intn(2)] + text[end:]
		}
		want := judge(text)
		seen[want]++
		if want != api.OK {
			d.refuseType(text, want)
			continue
		}
		h := d.put(text)
		if got := d.show(h); got != text {
			t.Fatalf("P4: Show of %q = %q", text, got)
		}
		d.free(h)
	}
	if seen[api.OK] < 1000 || seen[api.ErrSyntax] < 1000 || seen[api.ErrTooBig] < 1000 {
		t.Errorf("the test is wrong: it tried too few of a kind: %v", seen)
	}
}

func TestP3Full(t *testing.T) {
	d := start(t)
	for i := 0; i < 24; i++ {
		if h := d.put("0x0:"); h != i {
			t.Fatalf("P4: the handle %d, want %d", h, i)
		}
	}
	d.unchanged(func() {
		for _, text := range []string{"0x0:", "1x1: 5", "4x0:"} {
			d.refuseType(text, api.ErrFull)
		}
		d.refuseType("0x5:", api.ErrTooBig)
		d.refuseType("1x1: "+overMost, api.ErrTooBig)
		d.refuseType("0x5", api.ErrSyntax)
		d.refuseType("1x1: "+strings.Repeat("9", 3996), api.ErrSyntax)
	})
	d.free(23)
	if h := d.put("1x1: 5"); h != 24 {
		t.Errorf("P4: the handle behind 24 is %d", h)
	}
	d.refuseType("1x1: 5", api.ErrFull)
}

func TestP4HandlesRunOn(t *testing.T) {
	d := start(t)
	next := 0
	for i := 0; i < 300; i++ {
		g, h := d.put("1x1: 2"), d.put("1x1: 3")
		k := d.times(g, h)
		if g != next || h != next+1 || k != next+2 {
			t.Fatalf("P4: the handles %d, %d, %d, want %d and on", g, h, k, next)
		}
		next += 3
		d.refuseType("no", api.ErrSyntax)
		d.refuseTimes(g, -1, api.ErrNoHandle)
		d.free(h)
		d.free(k)
		d.free(g)
		if _, e := d.s.Show(g); e != api.ErrNoHandle {
			t.Fatalf("P4: Show of what was freed = %d", e)
		}
	}
}

func TestP4HeldInAnyOrder(t *testing.T) {
	source := rand.New(rand.NewSource(4))
	d := start(t)
	held := []int{}
	for i := 0; i < 5000; i++ {
		if len(held) > 0 && source.Intn(2) == 0 {
			at := source.Intn(len(held))
			h := held[at]
			held = append(held[:at], held[at+1:]...)
			d.free(h)
			if e := d.s.Free(h); e != api.ErrNoHandle {
				t.Fatalf("P4: Free, once more, = %d", e)
			}
			continue
		}
		h, e := d.s.Type(fmt.Sprintf("1x1: %d", i))
		if len(held) == 24 {
			if h != -1 || e != api.ErrFull {
				t.Fatalf("P3: Type, full, = %d, %d", h, e)
			}
			d.free(held[0])
			held = held[1:]
			continue
		}
		if e != api.OK || len(held) > 0 && h <= held[len(held)-1] {
			t.Fatalf("P4: Type = %d, %d behind %v", h, e, held)
		}
		held = append(held, h)
	}
	for i := 1; i < len(held); i++ {
		if d.show(held[i]) == d.show(held[i-1]) {
			t.Errorf("P4: %d and %d stand for one matrix", held[i], held[i-1])
		}
	}
}

func TestP4HandlesThatStandForNothing(t *testing.T) {
	d := start(t)
	for i := 0; i < 3; i++ {
		d.put(fmt.Sprintf("1x1: %d", i))
	}
	d.free(1)
	d.unchanged(func() {
		for _, h := range []int{-1, 1, 3, 4, 23, 24, 25, farLow, farHigh, farLow + 1, 1 << 31, 1 << 32, -1 << 32} {
			if text, e := d.s.Show(h); text != "" || e != api.ErrNoHandle {
				t.Errorf("P4: Show(%d) = %q, %d", h, text, e)
			}
			if e := d.s.Free(h); e != api.ErrNoHandle {
				t.Errorf("P4: Free(%d) = %d", h, e)
			}
		}
	})
	if d.show(0) != "1x1: 0" || d.show(2) != "1x1: 2" {
		t.Error("P4: a matrix is not what was typed")
	}
	if h := d.put("0x0:"); h != 3 {
		t.Errorf("P4: the next handle is %d, want 3", h)
	}
}

func TestP4StoresAreApart(t *testing.T) {
	one, two := start(t), start(t)
	if one.put("1x1: 1") != 0 || two.put("1x1: 2") != 0 || one.put("1x1: 3") != 1 {
		t.Fatal("P4: handles of one store hang on another")
	}
	one.free(0)
	if two.show(0) != "1x1: 2" || one.show(1) != "1x1: 3" {
		t.Error("P4: one store changes another")
	}
	if text, e := matrices.New().Show(0); text != "" || e != api.ErrNoHandle {
		t.Errorf("P4: a new store holds %q, %d", text, e)
	}
}
