package weigh

import (
	"math"
	"strings"
	"testing"

	"sheaf/api"
)

// bound is the greatest part of a weight, as the document writes it.
const bound = 9007199254740992

// anyText returns n bytes that look like any; another seed gives other ones.
func anyText(n int, seed uint32) string {
	b := make([]byte, n)
	for i := range b {
		seed = seed*1664525 + 1013904223
		b[i] = byte(seed >> 24)
	}
	return string(b)
}

// texts returns texts of all short lengths and of some long ones: of any bytes, of zero bytes, of bytes 255.
func texts() []string {
	var l []string
	for n := range 70 {
		l = append(l, anyText(n, uint32(n)), strings.Repeat("\x00", n), strings.Repeat("\xff", n))
		// One byte that counts, at each index.
		l = append(l, strings.Repeat("\x00", n)+"\x01", strings.Repeat("\x00", n)+"\xff\x00\x00")
	}
	for _, n := range []int{api.MaxChunk - 1, api.MaxChunk, api.MaxChunk + 1, api.MaxText, api.MaxStream - 1, api.MaxStream} {
		l = append(l, anyText(n, 5))
	}
	for i := range 4 {
		b := []byte(strings.Repeat("\x00", api.MaxStream))
		for ; i < len(b); i += 4 {
			b[i] = 255
		}
		l = append(l, string(b))
	}
	return append(l, "ä", "\x80", "a\x80\xe4", "a\x00", "\x00a")
}

// numbers returns parts of weights: those that the issue names, and others.
func numbers() []int {
	return []int{-bound, -bound + 1, -1 << 31, -255, -7, -1, 0, 1, 2, 255, 1<<31 - 1, 1<<52 + 1, bound - 1, bound}
}

// turns returns what a weight may be turned by, with its number modulo 4.
func turns() map[int]int {
	m := map[int]int{
		math.MaxInt: 3, math.MaxInt - 1: 2, math.MaxInt - 2: 1, math.MaxInt - 3: 0,
		math.MinInt: 0, math.MinInt + 1: 1, math.MinInt + 2: 2, math.MinInt + 3: 3,
		math.MaxInt32: 3, math.MinInt32: 0, math.MinInt32 + 3: 3, -1<<40 - 1: 3,
		1 << 32: 0, 1<<32 + 1: 1, 1<<40 + 2: 2, api.MaxStream: 0, api.MaxStream + 3: 3,
	}
	for n := range 40 {
		m[n-20] = n % 4 // 20 is a multiple of 4
	}
	return m
}

// notWeights returns complex numbers one part of which, or both, no weight has.
func notWeights() []complex128 {
	var l []complex128
	for _, x := range []float64{
		0.5, -0.5, 1.5, 1e-300, -5e-324, 1<<51 + 0.5, -(1<<51 + 0.5),
		bound + 2, -bound - 2, 1 << 54, -(1 << 54), 1 << 63, -(1 << 63), 1 << 64, 1e300, -1e300,
		math.MaxFloat64, math.Inf(1), math.Inf(-1), math.NaN(),
	} {
		l = append(l, complex(x, 0), complex(0, x), complex(x, -3), complex(3, x), complex(x, x), complex(x, bound))
	}
	return append(l, complex(math.NaN(), math.Inf(1)), complex(math.Inf(-1), math.NaN()))
}

// is tells whether z has these parts, and no -0.
func is(z complex128, re, im float64) bool {
	return math.Float64bits(real(z)) == math.Float64bits(re+0) && math.Float64bits(imag(z)) == math.Float64bits(im+0)
}

// partsByWords is the weight of a text as the document's words say it, with integers.
func partsByWords(s string) (int, int) {
	re, im := 0, 0
	for i := range len(s) {
		n := int(s[i])
		switch i % 4 {
		case 0:
			re += n
		case 1:
			im += n
		case 2:
			re -= n
		case 3:
			im -= n
		}
	}
	return re, im
}

// turnedByWords exchanges the parts, and changes the sign of the new first one, times times.
func turnedByWords(re, im, times int) (int, int) {
	for range times {
		re, im = -im, re
	}
	return re, im
}

// P4.1: weights that are known, of texts of 0 to 9 bytes.
func TestOfKnown(t *testing.T) {
	for _, c := range []struct {
		s      string
		re, im float64
	}{
		{"", 0, 0},
		{"\x00", 0, 0},
		{"\x01", 1, 0},
		{"\xff", 255, 0},
		{"a", 97, 0},
		{"\x00\xff", 0, 255},
		{"\x00\x00\xff", -255, 0},
		{"\x00\x00\x00\xff", 0, -255},
		{"\x00\x00\x00\x00\xff", 255, 0},
		{"\x01\x02", 1, 2},
		{"\x01\x02\x03", -2, 2},
		{"\x01\x02\x03\x04", -2, -2},
		{"\x01\x02\x03\x04\x05", 3, -2},
		{"\x01\x02\x03\x04\x05\x06", 3, 4},
		{"\x01\x02\x03\x04\x05\x06\x07", -4, 4},
		{"\x01\x02\x03\x04\x05\x06\x07\x08", -4, -4},
		{"\x01\x02\x03\x04\x05\x06\x07\x08\x09", 5, -4},
		{"\xff\xff\xff\xff", 0, 0},
		{"abcdab", 95, 96},
		{"ä", 0xc3, 0xa4},
	} {
		if z := Of(c.s); !is(z, c.re, c.im) {
			t.Errorf("Of(%q): %v, not %v%+vi", c.s, z, c.re, c.im)
		}
	}
}

// P4.1: the weights of many texts, by the document's words; they are valid, and no part is -0.
func TestOf(t *testing.T) {
	for _, s := range texts() {
		re, im := partsByWords(s)
		z := Of(s)
		if !is(z, float64(re), float64(im)) {
			t.Errorf("Of %d bytes: %v, not %d%+di", len(s), z, re, im)
		}
		if a, b, e := Parts(z); a != re || b != im || e != api.OK {
			t.Errorf("Parts of the weight of %d bytes: %d %d %d, not %d %d", len(s), a, b, e, re, im)
		}
	}
}

// P4.1: turning by 0 to 4 and by -1, once for each number of quarters.
func TestTurnKnown(t *testing.T) {
	for _, c := range []struct {
		z      complex128
		n      int
		re, im float64
	}{
		{3 - 2i, 0, 3, -2},
		{3 - 2i, 1, 2, 3},
		{3 - 2i, 2, -3, 2},
		{3 - 2i, 3, -2, -3},
		{3 - 2i, 4, 3, -2},
		{3 - 2i, -1, -2, -3},
		{3 - 2i, -2, -3, 2},
		{3 - 2i, -3, 2, 3},
		{3 - 2i, -4, 3, -2},
		{0, 1, 0, 0},
		{0, 2, 0, 0},
		{0, 3, 0, 0},
		{5, 1, 0, 5},
		{5, 2, -5, 0},
		{5, 3, 0, -5},
		{5i, 1, -5, 0},
		{5i, 2, 0, -5},
		{5i, 3, 5, 0},
		{bound - bound*1i, 1, bound, bound},
		{bound - bound*1i, 2, -bound, bound},
		{bound - bound*1i, 3, -bound, -bound},
	} {
		if z := Turn(c.z, c.n); !is(z, c.re, c.im) {
			t.Errorf("Turn(%v, %d): %v, not %v%+vi", c.z, c.n, z, c.re, c.im)
		}
	}
}

// P4.1: Turn of all kinds of parts by all kinds of numbers.
func TestTurn(t *testing.T) {
	for _, re := range numbers() {
		for _, im := range numbers() {
			z := complex(float64(re), float64(im))
			for n, times := range turns() {
				x, y := turnedByWords(re, im, times)
				if got := Turn(z, n); !is(got, float64(x), float64(y)) {
					t.Fatalf("Turn(%v, %d): %v, not %d%+di", z, n, got, x, y)
				}
			}
		}
	}
}

// P4.1, and the chapter's example: joins that are known, at the bounds and beyond them too.
func TestJoinKnown(t *testing.T) {
	for _, c := range []struct {
		a      complex128
		n      int
		b      complex128
		re, im float64
	}{
		{1, 1, 2, 1, 2},
		{0, 0, 0, 0, 0},
		{0, 3, 0, 0, 0},
		{1, 0, 2, 3, 0},
		{1, 2, 2, -1, 0},
		{1, 3, 2, 1, -2},
		{1, -1, 2, 1, -2},
		{1, -2, 1, 0, 0},
		{5 + 7i, 2, 5 + 7i, 0, 0},
		{-3 + 4i, 1, 10 - 20i, 17, 14},
		{bound - 1, 0, 1, bound, 0},
		{bound, 2, 1, bound - 1, 0},
		{-bound * 1i, 1, bound, 0, 0},
		{1 - bound, 2, 1 + 3i, -bound, -3},
		{bound, 0, 1, bound, 0},
		{bound, 0, 2, bound + 2, 0},
		{bound - 1, 0, bound, 2 * bound, 0},
		{bound + bound*1i, 0, bound + bound*1i, 2 * bound, 2 * bound},
		{bound + bound*1i, 1, bound + bound*1i, 0, 2 * bound},
		{-bound - bound*1i, 2, bound + bound*1i, -2 * bound, -2 * bound},
		{-bound*1i + 4, 3, bound, 4, -2 * bound},
	} {
		if z := Join(c.a, c.n, c.b); !is(z, c.re, c.im) {
			t.Errorf("Join(%v, %d, %v): %v, not %v%+vi", c.a, c.n, c.b, z, c.re, c.im)
		}
	}
}

// P4.1: Join of all kinds of parts, turned by all kinds of numbers: the sums are those of IEEE 754.
func TestJoin(t *testing.T) {
	for _, a := range numbers() {
		for _, b := range numbers() {
			first := complex(float64(a), float64(b))
			for _, c := range numbers() {
				second := complex(float64(c), float64(-a))
				for n, times := range turns() {
					x, y := turnedByWords(c, -a, times)
					// The sum of two parts is below 2^63, so only its one conversion rounds it.
					if z := Join(first, n, second); !is(z, float64(a+x), float64(b+y)) {
						t.Fatalf("Join(%v, %d, %v): %v, not %d%+di", first, n, second, z, a+x, b+y)
					}
				}
			}
		}
	}
}

// P4.1: what is not valid: turned, or joined on either side, or on both.
func TestTurnAndJoinWrong(t *testing.T) {
	for _, z := range notWeights() {
		for n := range turns() {
			if x := Turn(z, n); !is(x, 0, 0) {
				t.Errorf("Turn(%v, %d): %v", z, n, x)
			}
			for _, x := range []complex128{Join(z, n, 0), Join(0, n, z), Join(z, n, 3-2i), Join(3-2i, n, z), Join(z, n, z), Join(-z, n, z)} {
				if !is(x, 0, 0) {
					t.Errorf("Join of %v by %d: %v", z, n, x)
				}
			}
		}
	}
}

// P4.1 and P4.2, and the chapter's Words: -0 is 0, and is never returned.
func TestMinusZero(t *testing.T) {
	minus := math.Copysign(0, -1)
	for _, z := range []complex128{complex(minus, 0), complex(0, minus), complex(minus, minus)} {
		for n := range turns() {
			if x := Turn(z, n); !is(x, 0, 0) {
				t.Errorf("Turn(%v, %d): %v", z, n, x)
			}
			for _, y := range []complex128{z, 0, complex(minus, minus)} {
				if x := Join(z, n, y); !is(x, 0, 0) {
					t.Errorf("Join(%v, %d, %v): %v", z, n, y, x)
				}
			}
		}
		if a, b, e := Parts(z); a != 0 || b != 0 || e != api.OK {
			t.Errorf("Parts(%v): %d %d %d", z, a, b, e)
		}
	}
	if z := Turn(complex(minus, 5), 0); !is(z, 0, 5) {
		t.Errorf("Turn of -0+5i by 0: %v", z)
	}
	if z := Turn(complex(5, minus), 4); !is(z, 5, 0) {
		t.Errorf("Turn of 5-0i by 4: %v", z)
	}
	if z := Join(complex(minus, 5), 0, complex(minus, -2)); !is(z, 0, 3) {
		t.Errorf("Join of -0+5i and -0-2i: %v", z)
	}
}

// P4.2: Make of parts, up to the bounds, and Parts of what it returned.
func TestMake(t *testing.T) {
	for _, re := range numbers() {
		for _, im := range numbers() {
			z, e := Make(re, im)
			if !is(z, float64(re), float64(im)) || e != api.OK {
				t.Errorf("Make(%d, %d): %v %d", re, im, z, e)
			}
			if a, b, e := Parts(z); a != re || b != im || e != api.OK {
				t.Errorf("Parts(%v): %d %d %d, not %d %d", z, a, b, e, re, im)
			}
		}
	}
}

// P4.2: Make of a number beyond the bounds, at either place.
func TestMakeWrong(t *testing.T) {
	for _, n := range []int{
		bound + 1, bound + 2, 2 * bound, 1 << 62, math.MaxInt - 1, math.MaxInt,
		-bound - 1, -bound - 2, -2 * bound, -1 << 62, math.MinInt + 1, math.MinInt,
	} {
		for _, c := range [][2]int{{n, 0}, {0, n}, {n, n}, {n, bound}, {-bound, n}, {n, -n}} {
			if z, e := Make(c[0], c[1]); !is(z, 0, 0) || e != api.ErrRange {
				t.Errorf("Make(%d, %d): %v %d", c[0], c[1], z, e)
			}
		}
	}
}

// P4.2: Parts of what is not valid.
func TestPartsWrong(t *testing.T) {
	for _, z := range notWeights() {
		if a, b, e := Parts(z); a != 0 || b != 0 || e != api.ErrArg {
			t.Errorf("Parts(%v): %d %d %d", z, a, b, e)
		}
	}
	if a, b, e := Parts(Join(bound, 0, bound)); a != 0 || b != 0 || e != api.ErrArg {
		t.Errorf("Parts of a sum beyond the bounds: %d %d %d", a, b, e)
	}
}
