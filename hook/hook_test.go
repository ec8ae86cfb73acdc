package hook

import (
	"fmt"
	"math/big"
	"strings"
	"testing"

	"sheaf/api"
)

// allOnes is the fingerprint of 32 bytes 255.
var allOnes = filled(255)

// filled returns the fingerprint of 32 times the same byte.
func filled(b byte) api.Fp {
	var f api.Fp
	for i := range f {
		f[i] = b
	}
	return f
}

// with returns f with another byte at a place.
func with(f api.Fp, at int, b byte) api.Fp {
	f[at] = b
	return f
}

// anyFp returns a fingerprint that looks like any; another seed gives another one.
func anyFp(seed uint32) api.Fp {
	var f api.Fp
	for i := range f {
		seed = seed*1664525 + 1013904223
		f[i] = byte(seed >> 24)
	}
	return f
}

// power returns the fingerprint of which the bit at a place, counted from 0, is 1, and all others are 0.
func power(at int) api.Fp {
	var f api.Fp
	f[at/8] = byte(0b10000000 >> (at % 8))
	return f
}

// numberOf returns a fingerprint as a number of 256 bits.
func numberOf(f api.Fp) *big.Int { return new(big.Int).SetBytes(f[:]) }

// someFps returns fingerprints of all kinds: the least and the greatest, with each bit as the first that is 1, with bytes after that, that differ in one byte alone, and ordinary ones.
func someFps() []api.Fp {
	l := []api.Fp{{}, allOnes, {0, 32}, {0, 0, 1, 2, 255}, filled(0x0f), filled(0xf0), filled(0x09), filled(0x9a)}
	for at := range 256 {
		f := power(at)
		rest := new(big.Int).Sub(numberOf(f), big.NewInt(1))
		var all api.Fp
		new(big.Int).Add(numberOf(f), rest).FillBytes(all[:])
		l = append(l, f, all)
	}
	for seed := range uint32(20) {
		f := anyFp(seed)
		l = append(l, f, with(f, 0, f[0]+1), with(f, 31, f[31]+1), with(f, int(seed), ^f[seed]))
	}
	return l
}

// P7.1: the first four bytes, and no other, the most significant one first.
func TestNum(t *testing.T) {
	for _, c := range []struct {
		f    api.Fp
		want uint32
	}{
		{api.Fp{}, 0},
		{allOnes, 4294967295},
		{api.Fp{1, 2, 3, 4, 5}, 16909060},
		{api.Fp{0, 0, 1, 2, 255}, 258},
		{api.Fp{0, 0, 0, 0, 255, 255}, 0},
		{api.Fp{255}, 4278190080},
		{api.Fp{128}, 2147483648},
		{api.Fp{0, 1}, 65536},
		{api.Fp{0, 0, 1}, 256},
		{api.Fp{0, 0, 0, 1}, 1},
		{with(api.Fp{}, 31, 255), 0},
	} {
		if n := Num(c.f); n != c.want {
			t.Errorf("Num(%x): %d, not %d", c.f, n, c.want)
		}
	}
	for _, f := range someFps() {
		if n, want := Num(f), new(big.Int).Rsh(numberOf(f), 224); want.Cmp(big.NewInt(int64(n))) != 0 {
			t.Errorf("Num(%x): %d, not %d", f, n, want)
		}
	}
}

// P7.1: 64 digits, two for each byte.
func TestText(t *testing.T) {
	for _, c := range []struct {
		f    api.Fp
		want string
	}{
		{api.Fp{}, strings.Repeat("0", 64)},
		{allOnes, strings.Repeat("f", 64)},
		{filled(0x09), strings.Repeat("09", 32)},
		{filled(0xaf), strings.Repeat("af", 32)},
		{filled(0x9a), strings.Repeat("9a", 32)},
		{api.Fp{0, 0, 1, 2, 255}, "00000102ff" + strings.Repeat("0", 54)},
		{with(api.Fp{}, 31, 1), strings.Repeat("0", 63) + "1"},
		{api.Fp{
			0x00, 0x11, 0x22, 0x33, 0x44, 0x55, 0x66, 0x77, 0x88, 0x99, 0xaa, 0xbb, 0xcc, 0xdd, 0xee, 0xff,
			0x01, 0x23, 0x45, 0x67, 0x89, 0xab, 0xcd, 0xef, 0xfe, 0xdc, 0xba, 0x98, 0x76, 0x54, 0x32, 0x10,
		}, "00112233445566778899aabbccddeeff0123456789abcdeffedcba9876543210"},
	} {
		if s := Text(c.f); s != c.want {
			t.Errorf("Text(%x): %s, not %s", c.f, s, c.want)
		}
		if f, e := Parse(c.want); f != c.f || e != api.OK {
			t.Errorf("Parse(%s): %x %d", c.want, f, e)
		}
	}
	for _, f := range someFps() {
		if s, want := Text(f), fmt.Sprintf("%064x", numberOf(f)); s != want {
			t.Errorf("Text(%x): %s, not %s", f, s, want)
		}
	}
}

// P7.4: Parse of Text is the fingerprint, with each byte at each place.
func TestParseOfText(t *testing.T) {
	for _, f := range someFps() {
		if g, e := Parse(Text(f)); g != f || e != api.OK {
			t.Errorf("Parse(%s): %x %d", Text(f), g, e)
		}
	}
	for at := range 32 {
		for b := range 256 {
			f := with(anyFp(uint32(b)), at, byte(b))
			if g, e := Parse(Text(f)); g != f || e != api.OK {
				t.Errorf("Parse(%s): %x %d", Text(f), g, e)
			}
		}
	}
}

// expectNoFp holds that no fingerprint has this text.
func expectNoFp(t *testing.T, s string) {
	t.Helper()
	if f, e := Parse(s); f != (api.Fp{}) || e != api.ErrForm {
		t.Errorf("Parse(%q): %x %d", s, f, e)
	}
}

// P7.1: texts that are too short or too long.
func TestParseLengths(t *testing.T) {
	for n := range 200 {
		if n != 64 {
			expectNoFp(t, strings.Repeat("0", n))
			expectNoFp(t, strings.Repeat("9af", n)[:n])
		}
	}
	s := Text(anyFp(3))
	for _, wrong := range []string{s[:63], s[1:], s + "0", "0" + s, s + s, s + " ", s + "\n", " " + s, s + "\x00", strings.Repeat("0", 1<<16)} {
		expectNoFp(t, wrong)
	}
}

// P7.1: at each place, each byte that is no digit.
func TestParseDigits(t *testing.T) {
	s := Text(anyFp(5))
	for at := range 64 {
		for b := range 256 {
			text := s[:at] + string([]byte{byte(b)}) + s[at+1:]
			digit := strings.IndexByte("0123456789abcdef", byte(b))
			if digit < 0 {
				expectNoFp(t, text)
			} else if f, e := Parse(text); e != api.OK || int(f[at/2]>>(4-at%2*4)&15) != digit {
				t.Errorf("Parse(%s): %x %d", text, f, e)
			}
		}
	}
}

// P7.1: texts of the right length that no fingerprint has.
func TestParseWrong(t *testing.T) {
	for _, s := range []string{
		strings.Repeat("F", 64),
		strings.ToUpper(Text(filled(0xab))),
		strings.Repeat(" ", 64),
		strings.Repeat("\x00", 64),
		strings.Repeat("\xff", 64),
		strings.Repeat("ä", 32),
		"0x" + strings.Repeat("0", 62),
		"-1" + strings.Repeat("0", 62),
		strings.Repeat("0", 62) + "g0",
		strings.Repeat("0", 62) + "0g",
		strings.Repeat("/", 64),
		strings.Repeat(":", 64),
		strings.Repeat("`", 64),
		strings.Repeat("g", 64),
	} {
		expectNoFp(t, s)
	}
}

func FuzzParse(f *testing.F) {
	f.Add("")
	f.Add(Text(anyFp(1)))
	f.Add(strings.Repeat("F", 64))
	f.Add(strings.Repeat("0", 65))
	f.Fuzz(func(t *testing.T, s string) {
		fp, e := Parse(s)
		if fits := len(s) == 64 && strings.Trim(s, "0123456789abcdef") == ""; fits != (e == api.OK) {
			t.Fatalf("Parse(%q): %x %d", s, fp, e)
		}
		if e == api.OK && Text(fp) != s || e != api.OK && (e != api.ErrForm || fp != api.Fp{}) {
			t.Fatalf("Parse(%q): %x %d", s, fp, e)
		}
	})
}
