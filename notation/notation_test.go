package notation

import (
	"strings"
	"testing"
)

// Texts beyond what the calls take are read here too: the form of a text has
// sides up to 99 and entries of any size.
func TestReadAndWrite(t *testing.T) {
	for _, text := range []string{
		"0x0:", "0x99:", "99x0:", "1x1: 0", "2x3: 1 2 3; 4 5 -6", "1x6: 1 -2 3 -4 5 -6",
		"1x99:" + strings.Repeat(" -7", 99),
		"99x1: 10" + strings.Repeat("; 10", 98),
		"99x99:" + strings.Repeat(" 1", 99) + strings.Repeat(";"+strings.Repeat(" 1", 99), 98),
		"1x2: " + strings.Repeat("8", 5000) + " -1" + strings.Repeat("0", 5000),
	} {
		m, ok := Read(text)
		if !ok {
			t.Fatalf("%.40q is not read", text)
		}
		if got := Write(m); got != text {
			t.Errorf("%.40q is written as %.40q", text, got)
		}
	}
}

func TestReadRefuses(t *testing.T) {
	for _, text := range []string{"", "x", ":", "100x0:", "0x100:", "1000000000000000000000000x0:", "18446744073709551617x1: 1", "1x1: ", "99x99: 1", "1x1: 00", "1x1: -00", "1x1: -01", "00x0:", "0x00:"} {
		m, ok := Read(text)
		if ok || m.Rows() != 0 || m.Cols() != 0 {
			t.Errorf("%q is read as %q", text, Write(m))
		}
	}
}
