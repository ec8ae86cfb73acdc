package crc

import (
	"math"
	"strings"
	"testing"

	"sheaf/api"
)

// P2.3: Turn of single bits, of many, and of some that the text does not have.
func TestTurnKnown(t *testing.T) {
	for _, c := range []struct {
		s    string
		at   int
		bits uint32
		want string
	}{
		{"\x00\x00", 0, 1, "\x01\x00"},
		{"\x00\x00", 7, 3, "\x80\x01"},
		{"\x01\x00", 0, 1, "\x00\x00"},
		{"\x00\x00", 8, 0x81, "\x00\x81"},
		{"\x00\x00", 0, 0, "\x00\x00"},
		{"\x00\x00\x00\x00", 0, 0x04030201, "\x01\x02\x03\x04"},
		{"\x00\x00\x00\x00\x00", 4, math.MaxUint32, "\xf0\xff\xff\xff\x0f"},
		{"abc", 0, math.MaxUint32, "\x9e\x9d\x9c"},
		// at the last bit, and beyond it
		{"\x00\x00", 15, 1, "\x00\x80"},
		{"\x00\x00", 15, math.MaxUint32, "\x00\x80"},
		{"\x00\x00", 16, math.MaxUint32, "\x00\x00"},
		{"\x00\x00", 1000, math.MaxUint32, "\x00\x00"},
		{"\x00\x00", math.MaxInt - 31, math.MaxUint32, "\x00\x00"},
		{"\x00\x00", math.MaxInt - 3, math.MaxUint32, "\x00\x00"},
		{"\x00\x00", math.MaxInt, math.MaxUint32, "\x00\x00"},
		// below index 0
		{"\x00\x00", -1, 1, "\x00\x00"},
		{"\x00\x00", -1, 3, "\x01\x00"},
		{"\x00\x00", -8, 0x100, "\x01\x00"},
		{"\x00\x00", -31, 1 << 31, "\x01\x00"},
		{"\x00\x00", -31, math.MaxUint32, "\x01\x00"},
		{"\x00\x00", -32, math.MaxUint32, "\x00\x00"},
		{"\x00\x00", math.MinInt, math.MaxUint32, "\x00\x00"},
		{"", 0, math.MaxUint32, ""},
		{"", -5, math.MaxUint32, ""},
		{"", math.MaxInt, math.MaxUint32, ""},
		{"", math.MinInt, math.MaxUint32, ""},
	} {
		if got := Turn(c.s, c.at, c.bits); got != c.want {
			t.Errorf("Turn(%q, %d, %08X): %q, not %q", c.s, c.at, c.bits, got, c.want)
		}
	}
}

// P2.3: Turn of every place within and around a text, held against its bits.
func TestTurn(t *testing.T) {
	for n := range 8 {
		s := text(n, 12)
		for at := -40; at < 8*n+40; at++ {
			for _, bits := range []uint32{0, 1, 2, 1 << 31, 0x80000001, 0xCBF43926, math.MaxUint32} {
				want := bitsOf(s)
				for i := range want {
					if j := i - at; j >= 0 && j < 32 {
						want[i] ^= byte(bits >> j & 1)
					}
				}
				got := Turn(s, at, bits)
				if string(bitsOf(got)) != string(want) {
					t.Errorf("Turn(%q, %d, %08X): %q", s, at, bits, got)
				}
				if again := Turn(got, at, bits); again != s {
					t.Errorf("Turn(%q, %d, %08X) and back: %q", s, at, bits, again)
				}
			}
		}
	}
}

// P2.3: Apart of equal texts, of texts that differ, and of texts of unlike lengths.
func TestApartKnown(t *testing.T) {
	zero := strings.Repeat("\x00", api.MaxChunk)
	for _, c := range []struct {
		a, b string
		n    int
		ok   bool
	}{
		{"", "", 0, true},
		{"a", "a", 0, true},
		{zero, zero, 0, true},
		{"\x80\x01", "\x00\x00", 2, true},
		{"\x00", "\x01", 1, true},
		{"\x00", "\x10", 1, true},
		{"\x00", "\x80", 1, true},
		{"\x00", "\x81", 8, true},
		{"\x00", "\xff", 8, true},
		{"\x0f", "\xf0", 8, true},
		{"\x18", "\x24", 4, true},
		// in the first bit, in the last one, in both
		{"\x00\x00\x00", "\x01\x00\x00", 1, true},
		{"\x00\x00\x00", "\x00\x00\x80", 1, true},
		{"\x00\x00\x00", "\x01\x00\x80", 24, true},
		{zero, "\x01" + zero[1:], 1, true},
		{zero, zero[1:] + "\x80", 1, true},
		{zero, "\x01" + zero[2:] + "\x80", 8 * api.MaxChunk, true},
		// by 31, by 32, and by more bits
		{"\x00\x00\x00\x00\x00", "\x01\x00\x00\x40\x00", 31, true},
		{"\x00\x00\x00\x00\x00", "\x01\x00\x00\x80\x00", 32, true},
		{"\x00\x00\x00\x00\x00", "\x80\x00\x00\x00\x40", 32, true},
		{"\x00\x00\x00\x00\x00", "\x01\x00\x00\x00\x01", 33, true},
		{"\x00\x00\x00\x00\x00", "\xff\xff\xff\xff\xff", 40, true},
		// unlike lengths
		{"", "a", 0, false},
		{"a", "ab", 0, false},
		{"\x00", "\x00\x00", 0, false},
		{"x\x00", "y", 0, false},
		{zero, zero[1:], 0, false},
	} {
		if n, ok := Apart(c.a, c.b); n != c.n || ok != c.ok {
			t.Errorf("Apart(%.10q, %.10q): %d, %t; not %d, %t", c.a, c.b, n, ok, c.n, c.ok)
		}
		if n, ok := Apart(c.b, c.a); n != c.n || ok != c.ok {
			t.Errorf("Apart(%.10q, %.10q): %d, %t; not %d, %t", c.b, c.a, n, ok, c.n, c.ok)
		}
	}
}

// P2.3: Apart for any two bits that differ, whatever differs between them.
func TestApart(t *testing.T) {
	s := text(11, 13)
	for first := range 8 * len(s) {
		for last := first; last < 8*len(s); last++ {
			other := Turn(s, first, 1)
			if last > first {
				other = Turn(other, last, 1)
			}
			between := []byte(other)
			for i := first + 1; i < last; i += 3 {
				between[i/8] ^= 1 << (i % 8)
			}
			for _, b := range []string{other, string(between)} {
				if n, ok := Apart(s, b); n != last-first+1 || !ok {
					t.Errorf("bits %d to %d: Apart %d, %t", first, last, n, ok)
				}
			}
		}
	}
}
