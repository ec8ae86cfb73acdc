package crc

import (
	"testing"

	"sheaf/api"
)

// seen holds a text against the same one with a change that must be seen.
func seen(t *testing.T, s string, at int, bits uint32, width int) {
	t.Helper()
	b := Turn(s, at, bits)
	if n, ok := Apart(s, b); n != width || !ok {
		t.Errorf("bits %08X at %d: apart by %d, %t; not by %d", bits, at, n, ok, width)
	}
	if Sum(b) == Sum(s) {
		t.Errorf("bits %08X at %d: the sum is the same, %08X", bits, at, Sum(s))
	}
	if _, e := Open(s); e != api.OK {
		return
	}
	if x, e := Open(b); x != "" || e != api.ErrCorrupt {
		t.Errorf("bits %08X at %d: opened, %d bytes and error %d", bits, at, len(x), e)
	}
}

// P2.5: every change of 1 to 10 bits, of a text and of a sealed one.
func TestShortBursts(t *testing.T) {
	for _, s := range []string{text(5, 14), Seal("x")} {
		for width := 1; width <= 10; width++ {
			for inner := range uint32(1) << max(width-2, 0) {
				bits := 1 | inner<<1 | 1<<(width-1)
				for at := range 8*len(s) - width + 1 {
					seen(t, s, at, bits, width)
				}
			}
		}
	}
}

// P2.5: changes of 1 to 32 bits at every place: of their ends alone, of all
// between, and of some; also where text and seal meet.
func TestBursts(t *testing.T) {
	for _, s := range []string{text(40, 15), Seal(text(40, 16)), Seal(""), Seal("\x00\x00\x00\x00")} {
		for width := 1; width <= 32; width++ {
			ends := uint32(1) | 1<<(width-1)
			full := uint32(1<<width - 1)
			for at := range 8*len(s) - width + 1 {
				for _, inner := range []uint32{0, full, 0xAAAAAAAA, 0xEDB88320, 0xCBF43926, 0x04C11DB7, uint32(at) * 2654435761} {
					seen(t, s, at, ends|inner&full, width)
				}
			}
		}
	}
}

// P2.5: changes at both ends of a long text.
func TestBurstsOfLongTexts(t *testing.T) {
	s := Seal(text(api.MaxText, 17))
	last := 8*len(s) - 1
	for _, width := range []int{1, 2, 31, 32} {
		bits := uint32(1) | 1<<(width-1)
		seen(t, s, 0, bits, width)
		seen(t, s, last/2, bits, width)
		seen(t, s, last-width+1, bits, width)
	}
}

// Beyond the bound of P2.5: of all changes of 33 bits just one, which is the
// polynomial itself, leaves the sum as it is; then so does it a sealed text.
func TestBeyondBursts(t *testing.T) {
	s := Seal(text(40, 18))
	for at := range 8*len(s) - 32 {
		b := Turn(Turn(s, at, 1), at+1, 0xEDB88320)
		if n, ok := Apart(s, b); n != 33 || !ok {
			t.Errorf("the polynomial at %d: apart by %d, %t", at, n, ok)
		}
		if Sum(b) != Sum(s) {
			t.Errorf("the polynomial at %d: %08X, not %08X", at, Sum(b), Sum(s))
		}
		if x, e := Open(b); x != b[:len(b)-4] || e != api.OK {
			t.Errorf("the polynomial at %d: not opened, error %d", at, e)
		}
		for _, bits := range []uint32{1 << 31, 1<<32 - 1, 0xEDB88321, 0xEDB88322, 0xCDB88320, 0x84C11DB7} {
			b := Turn(Turn(s, at, 1), at+1, bits)
			if Sum(b) == Sum(s) {
				t.Errorf("33 bits, %08X at %d: the sum is the same", bits, at)
			}
			if x, e := Open(b); x != "" || e != api.ErrCorrupt {
				t.Errorf("33 bits, %08X at %d: opened, %d bytes and error %d", bits, at, len(x), e)
			}
		}
	}
}
