package pack

import (
	"math"
	"slices"
	"strings"
	"testing"

	"sheaf/api"
)

// P1.1: the bytes of a number.
func TestNumbers(t *testing.T) {
	for _, c := range []struct{ name, got, want string }{
		{"U8(0)", U8(0), "\x00"},
		{"U8(7)", U8(7), "\x07"},
		{"U8(255)", U8(math.MaxUint8), "\xff"},
		{"U16(0)", U16(0), "\x00\x00"},
		{"U16(258)", U16(258), "\x02\x01"},
		{"U16(65535)", U16(math.MaxUint16), "\xff\xff"},
		{"U32(0)", U32(0), "\x00\x00\x00\x00"},
		{"U32(1)", U32(1), "\x01\x00\x00\x00"},
		{"U32(0x04030201)", U32(0x04030201), "\x01\x02\x03\x04"},
		{"U32(0x80fffe7f)", U32(0x80fffe7f), "\x7f\xfe\xff\x80"},
		{"U32 at its greatest", U32(math.MaxUint32), "\xff\xff\xff\xff"},
		{"U64(0)", U64(0), "\x00\x00\x00\x00\x00\x00\x00\x00"},
		{"U64(1 << 40)", U64(1 << 40), "\x00\x00\x00\x00\x00\x01\x00\x00"},
		{"U64(0x0807060504030201)", U64(0x0807060504030201), "\x01\x02\x03\x04\x05\x06\x07\x08"},
		{"U64 at its greatest", U64(math.MaxUint64), "\xff\xff\xff\xff\xff\xff\xff\xff"},
	} {
		if c.got != c.want {
			t.Errorf("%s: %q, not %q", c.name, c.got, c.want)
		}
	}
}

// P1.1: the bytes of a text.
func TestText(t *testing.T) {
	for _, c := range []struct{ s, head string }{
		{"", "\x00\x00\x00\x00"},
		{"ab", "\x02\x00\x00\x00"},
		{"\x00", "\x01\x00\x00\x00"},
		{"\xff\x80", "\x02\x00\x00\x00"},
		{"ä", "\x02\x00\x00\x00"},
		{strings.Repeat("x", 258), "\x02\x01\x00\x00"},
		{strings.Repeat("x", api.MaxText), "\x00\x00\x01\x00"},
		{strings.Repeat("x", api.MaxText+1), "\x01\x00\x01\x00"},
	} {
		if got := Text(c.s); got != c.head+c.s {
			t.Errorf("Text of %d bytes: %d bytes, head %q, not %q", len(c.s), len(got), got[:4], c.head)
		}
	}
}

// P1.1: the bytes of a list.
func TestList(t *testing.T) {
	for _, c := range []struct {
		l    []string
		want string
	}{
		{nil, "\x00\x00\x00\x00"},
		{[]string{}, "\x00\x00\x00\x00"},
		{[]string{""}, "\x01\x00\x00\x00" + "\x00\x00\x00\x00"},
		{[]string{"a"}, "\x01\x00\x00\x00" + "\x01\x00\x00\x00a"},
		{[]string{"", "bc", ""}, "\x03\x00\x00\x00" + "\x00\x00\x00\x00" + "\x02\x00\x00\x00bc" + "\x00\x00\x00\x00"},
		{[]string{strings.Repeat("x", api.MaxText+1)}, "\x01\x00\x00\x00" + "\x01\x00\x01\x00" + strings.Repeat("x", api.MaxText+1)},
		{make([]string, api.MaxList), "\x00\x00\x01\x00" + strings.Repeat("\x00", 4*api.MaxList)},
		{make([]string, api.MaxList+1), "\x01\x00\x01\x00" + strings.Repeat("\x00", 4*(api.MaxList+1))},
	} {
		if got := List(c.l...); got != c.want {
			t.Errorf("List of %d texts: %d bytes, not %d as wanted", len(c.l), len(got), len(c.want))
		}
	}
	if got := List(); got != "\x00\x00\x00\x00" {
		t.Errorf("List of nothing: %q", got)
	}
	l := []string{"b", "a"}
	List(l...)
	if !slices.Equal(l, []string{"b", "a"}) {
		t.Errorf("List changed its argument: %q", l)
	}
}

// P1.1: Fill.
func TestFill(t *testing.T) {
	for _, c := range []struct {
		s    string
		n    int
		want string
	}{
		{"ab", 4, "ab\x00\x00"},
		{"ab", 3, "ab\x00"},
		{"ab", 2, "ab"},
		{"ab", 1, "ab"},
		{"ab", 0, "ab"},
		{"ab", -1, "ab"},
		{"ab", math.MinInt, "ab"},
		{"", 0, ""},
		{"", -1, ""},
		{"", 3, "\x00\x00\x00"},
		{"a\x00", 3, "a\x00\x00"},
		{"", api.Sector, strings.Repeat("\x00", api.Sector)},
		{"x", api.MaxBlob, "x" + strings.Repeat("\x00", api.MaxBlob-1)},
	} {
		if got := Fill(c.s, c.n); got != c.want {
			t.Errorf("Fill(%q, %d): %d bytes, not %d as wanted", c.s, c.n, len(got), len(c.want))
		}
	}
}

// Rule 1: of such lengths nothing is promised but that the call returns.
func TestFillBeyondAll(t *testing.T) {
	for _, n := range []int{1 << 31, 1 << 40, math.MaxInt} {
		if got := Fill("ab", n); got != "ab" {
			t.Errorf("Fill(ab, %d): %d bytes", n, len(got))
		}
	}
}
