package hook

import (
	"math"
	"testing"

	"sheaf/api"
)

// manyBits returns numbers of bits: all that count, those around them, and the least and the greatest there are.
func manyBits() []int {
	l := []int{math.MinInt, math.MinInt + 1, math.MinInt32, -257, -256, -255, -2, -1}
	for n := range 259 {
		l = append(l, n)
	}
	return append(l, 300, 511, 512, 513, 1000, math.MaxInt32, math.MaxInt-1, math.MaxInt)
}

// zerosByWords returns how many bits at the beginning of f are 0.
func zerosByWords(f api.Fp) int { return 256 - numberOf(f).BitLen() }

// isByWords looks at each of the first bits.
func isByWords(f api.Fp, bits int) bool {
	number := numberOf(f)
	for i := range max(0, min(bits, 256)) {
		if number.Bit(255-i) != 0 {
			return false
		}
	}
	return true
}

// expectLess holds that a is less than b.
func expectLess(t *testing.T, a, b api.Fp) {
	t.Helper()
	if !Less(a, b) || Less(b, a) {
		t.Errorf("Less of %x and %x: %v, turned round %v", a, b, Less(a, b), Less(b, a))
	}
}

// P7.2: byte by byte, as numbers without signs, the first byte ahead of all others; none is less than itself.
func TestLess(t *testing.T) {
	f := filled(7)
	expectLess(t, api.Fp{}, allOnes)
	expectLess(t, api.Fp{}, with(api.Fp{}, 31, 1))
	expectLess(t, with(allOnes, 31, 254), allOnes)
	expectLess(t, with(allOnes, 0, 127), with(api.Fp{}, 0, 128))
	for at := range 32 {
		expectLess(t, f, with(f, at, 8))
		expectLess(t, f, with(f, at, 128))
		expectLess(t, with(f, at, 0), f)
		if at > 0 {
			expectLess(t, with(f, at, 255), with(f, at-1, 8))
			expectLess(t, with(with(f, 31, 255), 0, 6), with(f, at, 0))
		}
	}
	l := someFps()
	for _, a := range l {
		for _, b := range l {
			if got, want := Less(a, b), numberOf(a).Cmp(numberOf(b)) < 0; got != want {
				t.Errorf("Less(%x, %x): %v", a, b, got)
			}
		}
	}
}

// P7.2: the bits at the beginning that are 0, whatever comes behind the first that is 1.
func TestZeros(t *testing.T) {
	for _, c := range []struct {
		f    api.Fp
		want int
	}{
		{api.Fp{}, 256}, {allOnes, 0}, {api.Fp{128}, 0}, {api.Fp{127, 255}, 1}, {api.Fp{1}, 7}, {api.Fp{1, 128}, 7},
		{api.Fp{0, 128}, 8}, {api.Fp{0, 255, 255}, 8}, {api.Fp{0, 32}, 10}, {api.Fp{0, 0, 1, 2, 255}, 23},
		{with(api.Fp{}, 31, 1), 255}, {with(api.Fp{}, 31, 128), 248}, {with(api.Fp{}, 30, 1), 247}, {api.Fp{0, 0, 0, 0, 255}, 32},
	} {
		if n := Zeros(c.f); n != c.want {
			t.Errorf("Zeros(%x): %d, not %d", c.f, n, c.want)
		}
	}
	for at := range 256 {
		if n := Zeros(power(at)); n != at {
			t.Errorf("Zeros(%x): %d, not %d", power(at), n, at)
		}
	}
	for _, f := range someFps() {
		if n := Zeros(f); n != zerosByWords(f) {
			t.Errorf("Zeros(%x): %d, not %d", f, n, zerosByWords(f))
		}
	}
}

// P7.2: hooks for each number of bits; one below 0 counts as 0, one above 256 as 256.
func TestIs(t *testing.T) {
	for _, f := range someFps() {
		for _, n := range manyBits() {
			if got := Is(f, n); got != isByWords(f, n) {
				t.Errorf("Is(%x, %d): %v", f, n, got)
			}
		}
	}
}

// P7.2: the example, and the edges of the numbers of bits.
func TestIsKnown(t *testing.T) {
	last := with(api.Fp{}, 31, 1)
	for _, c := range []struct {
		f    api.Fp
		bits int
		want bool
	}{
		{api.Fp{0, 32}, 10, true}, {api.Fp{0, 32}, 11, false}, {api.Fp{0, 32}, 9, true}, {api.Fp{0, 32}, 256, false},
		{allOnes, 0, true}, {allOnes, 1, false}, {allOnes, -1, true}, {allOnes, math.MinInt, true}, {allOnes, math.MaxInt, false},
		{last, 255, true}, {last, 256, false}, {last, 257, false}, {last, math.MaxInt, false}, {last, math.MinInt, true},
		{api.Fp{}, 0, true}, {api.Fp{}, 1, true}, {api.Fp{}, 255, true}, {api.Fp{}, 256, true}, {api.Fp{}, 257, true},
		{api.Fp{}, math.MaxInt, true}, {api.Fp{}, math.MinInt, true}, {api.Fp{127}, 1, true}, {api.Fp{127}, 2, false}, {api.Fp{128}, 1, false},
	} {
		if got := Is(c.f, c.bits); got != c.want {
			t.Errorf("Is(%x, %d): %v", c.f, c.bits, got)
		}
	}
}

// P7.4: a hook is one for every smaller number; for 0 bits all are hooks.
func TestFewer(t *testing.T) {
	bits := manyBits()
	for _, f := range someFps() {
		if !Is(f, 0) {
			t.Errorf("%x is no hook for 0 bits", f)
		}
		for i, n := range bits[1:] {
			if Is(f, n) && !Is(f, bits[i]) {
				t.Errorf("%x is a hook for %d bits, but not for %d", f, n, bits[i])
			}
		}
	}
}

func FuzzBits(f *testing.F) {
	f.Add([]byte{0, 32}, []byte{0, 33}, 11)
	f.Add([]byte{}, []byte{255}, -1)
	f.Fuzz(func(t *testing.T, first, second []byte, bits int) {
		var a, b api.Fp
		copy(a[:], first)
		copy(b[:], second)
		if Less(a, b) != (numberOf(a).Cmp(numberOf(b)) < 0) {
			t.Fatalf("Less(%x, %x): %v", a, b, Less(a, b))
		}
		if Zeros(a) != zerosByWords(a) || Is(a, bits) != isByWords(a, bits) {
			t.Fatalf("Zeros(%x): %d; Is for %d: %v", a, Zeros(a), bits, Is(a, bits))
		}
	})
}
