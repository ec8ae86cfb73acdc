package roll

import (
	"math"
	"math/big"
	"slices"
	"strings"
	"testing"

	"sheaf/api"
)

// greatest is the greatest hash, as the document writes it.
const greatest = 2147483646

// Two texts that were made for their hashes: the greatest one, and 0 though there are bytes.
const (
	greatestText = "\x7d\x82\x7d\x7e"
	zeroText     = "\x7d\x82\x7d\x7f"
)

// anyText returns n bytes that look like any; another seed gives other ones.
func anyText(n int, seed uint32) string {
	b := make([]byte, n)
	for i := range b {
		seed = seed*1664525 + 1013904223
		b[i] = byte(seed >> 24)
	}
	return string(b)
}

// texts returns texts of all lengths around the window and of some longer ones: of any bytes, of bytes 0, of bytes 255.
func texts() []string {
	l := []string{greatestText, zeroText, zeroText + "\x00", "ä", "\x80", "a\x80\xe4"}
	for n := range 70 {
		l = append(l, anyText(n, uint32(n)), strings.Repeat("\x00", n), strings.Repeat("\xff", n))
		// One byte that is another, at each index.
		l = append(l, strings.Repeat("\x00", n)+"\xff", strings.Repeat("\xff", n)+"\x00", "\x01"+strings.Repeat("\x00", n))
	}
	for _, n := range []int{api.MaxChunk - 1, api.MaxChunk, api.MaxChunk + 1} {
		l = append(l, anyText(n, 5), strings.Repeat("\xff", n))
	}
	return l
}

// byWords is the hash of a text as the document's words say it, with numbers without bounds.
func byWords(s string) uint32 {
	if len(s) > 16 {
		s = s[len(s)-16:]
	}
	sum := new(big.Int)
	for i := 1; i <= len(s); i++ {
		power := new(big.Int).Exp(big.NewInt(257), big.NewInt(int64(len(s)-i)), nil)
		sum.Add(sum, power.Mul(power, big.NewInt(int64(s[i-1])+1)))
	}
	return uint32(sum.Mod(sum, big.NewInt(greatest+1)).Int64())
}

// slidByWords slides any number as the document's words say it, with numbers without bounds.
func slidByWords(h uint32, out, in byte) uint32 {
	n := new(big.Int).Exp(big.NewInt(257), big.NewInt(15), nil)
	n.Mul(n, big.NewInt(int64(out)+1))
	n.Sub(big.NewInt(int64(h)), n)
	n.Mul(n, big.NewInt(257))
	n.Add(n, big.NewInt(int64(in)+1))
	return uint32(n.Mod(n, big.NewInt(greatest+1)).Int64())
}

// The constants are the powers of 257.
func TestPowers(t *testing.T) {
	for i, n := range powers {
		want := new(big.Int).Exp(big.NewInt(257), big.NewInt(int64(i)), big.NewInt(greatest+1))
		if want.Cmp(big.NewInt(int64(n))) != 0 {
			t.Errorf("257^%d: %d, not %v", i, n, want)
		}
	}
}

// P5.1, and the chapter's example: hashes that are known.
func TestSumKnown(t *testing.T) {
	for _, c := range []struct {
		s    string
		want uint32
	}{
		{"", 0},
		{"\x00", 1},
		{"\x00\x01", 259},
		{"\xff", 256},
		{"\xff\xff", 66048},
		{"ab", 98*257 + 99},
		{greatestText, greatest},
		{zeroText, 0},
		{strings.Repeat("\x00", 15), 12603519},
		{strings.Repeat("\x00", 16), 1091620737},
		{strings.Repeat("\x00", 17), 1091620737},
		{strings.Repeat("\xff", 15), 1079017217},
		{strings.Repeat("\xff", 16), 282034562},
		{strings.Repeat("\xff", 32), 282034562},
		{"0123456789abcde", 559394738},
		{"0123456789abcdef", 2030527067},
		{"x0123456789abcdef", 2030527067},
		{"0123456789abcdefg", 1219622044},
		{"0123456789abcdefgh", 840910330},
		{"0123456789abcdef0123456789abcdef", 2030527067},
	} {
		if h := Sum(c.s); h != c.want {
			t.Errorf("Sum(%q): %d, not %d", c.s, h, c.want)
		}
	}
}

// P5.1: Sum of many texts.
func TestSum(t *testing.T) {
	for _, s := range append(texts(), anyText(api.MaxStream, 9)) {
		if h := Sum(s); h != byWords(s) {
			t.Errorf("Sum of %d bytes: %d, not %d", len(s), h, byWords(s))
		}
	}
}

// P5.1: All has the hash of each prefix but the empty one.
func TestAll(t *testing.T) {
	for _, s := range texts() {
		l := All(s)
		if len(l) != len(s) {
			t.Fatalf("All of %d bytes has %d hashes", len(s), len(l))
		}
		for i, h := range l {
			if want := byWords(s[:i+1]); h != want {
				t.Fatalf("All of %d bytes, at %d: %d, not %d", len(s), i, h, want)
			}
		}
	}
}

// P5.1: All of known and of long texts.
func TestAllKnown(t *testing.T) {
	if l := All(""); len(l) != 0 {
		t.Errorf("All of the empty text: %v", l)
	}
	if l := All("\x00\x01"); !slices.Equal(l, []uint32{1, 259}) {
		t.Errorf("All of 0, 1: %v", l)
	}
	s := anyText(api.MaxStream, 4)
	l := All(s)
	if len(l) != len(s) {
		t.Fatalf("All of %d bytes has %d hashes", len(s), len(l))
	}
	for i := 0; i < len(l); i += 4001 {
		if want := byWords(s[:i+1]); l[i] != want {
			t.Fatalf("All of %d bytes, at %d: %d, not %d", len(s), i, l[i], want)
		}
	}
}

// P5.2: Slide of the hash of 16 bytes is that of the last 15 of them and the next one.
func TestSlideOfWindows(t *testing.T) {
	for _, s := range texts() {
		for i := 16; i < min(len(s), 200); i++ {
			h, e := Slide(byWords(s[:i]), s[i-16], s[i])
			if want := byWords(s[i-15 : i+1]); h != want || e != api.OK {
				t.Fatalf("Slide by %q: %d %d, not %d", s[i-16:i+1], h, e, want)
			}
		}
	}
}

// P5.2: slides that are known.
func TestSlideKnown(t *testing.T) {
	for _, c := range []struct {
		h       uint32
		out, in byte
		want    uint32
	}{
		{1091620737, 0, 0, 1091620737},
		{282034562, 255, 255, 282034562},
		{2030527067, '0', 'g', 1219622044},
		{1219622044, '1', 'h', 840910330},
		// 257^15 and 256 * 257^15, modulo 2^31 - 1: nothing is left of them.
		{1079017218, 0, 0, 1},
		{1079017218, 0, 255, 256},
		{1079017218 * 256 % (greatest + 1), 255, 7, 8},
	} {
		if h, e := Slide(c.h, c.out, c.in); h != c.want || e != api.OK {
			t.Errorf("Slide(%d, %d, %d): %d %d, not %d", c.h, c.out, c.in, h, e, c.want)
		}
	}
}

// P5.2: Slide of any number, by any two bytes.
func TestSlide(t *testing.T) {
	for _, h := range []uint32{0, 1, 2, 255, 256, 257, 258, 1 << 16, 1<<30 - 1, 1 << 30, 1079017217, 1079017218, 1079017219, 1091620737, greatest - 257, greatest - 1, greatest} {
		for out := range 256 {
			for _, in := range []byte{0, 1, 127, 128, 254, 255} {
				if n, e := Slide(h, byte(out), in); n != slidByWords(h, byte(out), in) || e != api.OK {
					t.Fatalf("Slide(%d, %d, %d): %d %d, not %d", h, out, in, n, e, slidByWords(h, byte(out), in))
				}
				if n, e := Slide(h, in, byte(out)); n != slidByWords(h, in, byte(out)) || e != api.OK {
					t.Fatalf("Slide(%d, %d, %d): %d %d, not %d", h, in, out, n, e, slidByWords(h, in, byte(out)))
				}
			}
		}
	}
}

// P5.2: numbers that no hash is.
func TestSlideWrong(t *testing.T) {
	for _, h := range []uint32{greatest + 1, greatest + 2, greatest + 3, 3 << 30, math.MaxUint32 - 1, math.MaxUint32} {
		for _, out := range []byte{0, 1, 128, 255} {
			for _, in := range []byte{0, 1, 128, 255} {
				if n, e := Slide(h, out, in); n != 0 || e != api.ErrArg {
					t.Errorf("Slide(%d, %d, %d): %d %d", h, out, in, n, e)
				}
			}
		}
	}
}

// divs returns numbers that hashes may be divided by: small ones, those of the bounds, and great ones.
func divs() []int {
	l := []int{
		16, 17, 100, 255, 256, 257, 258, 259, 260, 1000, api.MaxDiv - 1, api.MaxDiv,
		1<<30 - 1, 1 << 30, greatest - 1, greatest, greatest + 1, greatest + 2, greatest + 3,
		math.MaxUint32, 1 << 32, 1<<32 + 1, 1<<32 + 2, 1<<32 + 3, 1 << 33, 1<<62 + 1, math.MaxInt - 1, math.MaxInt,
	}
	for n := range 12 {
		l = append(l, n+1)
	}
	return l
}

// placesByWords holds the remainder of each prefix's hash against div - 1.
func placesByWords(s string, div int) []int {
	var l []int
	for n := 1; n <= len(s); n++ {
		if uint64(byWords(s[:n]))%uint64(div) == uint64(div)-1 {
			l = append(l, n)
		}
	}
	return l
}

// P5.3: Places of many texts, by all kinds of numbers.
func TestPlaces(t *testing.T) {
	for i, s := range texts() {
		if len(s) > 40 && i%8 != 0 {
			continue
		}
		for _, div := range divs() {
			if l := Places(s[:min(len(s), 300)], div); !slices.Equal(l, placesByWords(s[:min(len(s), 300)], div)) {
				t.Fatalf("Places(%q, %d): %v", s, div, l)
			}
		}
	}
}

// P5.3: numbers whose last place is each prefix's hash.
func TestPlacesOfOneHash(t *testing.T) {
	s := anyText(60, 3)
	for n := 1; n <= len(s); n++ {
		div := int(byWords(s[:n])) + 1
		if l := Places(s, div); !slices.Contains(l, n) || !slices.Equal(l, placesByWords(s, div)) {
			t.Errorf("Places by %d, with a place at %d: %v", div, n, l)
		}
	}
}

// P5.3: places that are known.
func TestPlacesKnown(t *testing.T) {
	for _, c := range []struct {
		s    string
		div  int
		want []int
	}{
		{"", 1, nil},
		{"", 2, nil},
		{"a", 1, []int{1}},
		{"abcd", 1, []int{1, 2, 3, 4}},
		{zeroText, 1, []int{1, 2, 3, 4}},
		{"\x00\x01", 2, []int{1, 2}},
		{"\x00\x01\x01", 2, []int{1, 2, 3}},
		{"\x01\x01\x00", 2, []int{3}},
		{"\x00\x01", 260, []int{2}},
		{"\x00\x01", 261, nil},
		{greatestText, greatest + 1, []int{4}},
		{greatestText, greatest + 2, nil},
		{greatestText, math.MaxInt, nil},
		{zeroText, greatest + 1, nil},
		{strings.Repeat("\x00", 20), 1091620738, []int{16, 17, 18, 19, 20}},
	} {
		if l := Places(c.s, c.div); !slices.Equal(l, c.want) {
			t.Errorf("Places(%q, %d): %v, not %v", c.s, c.div, l, c.want)
		}
	}
}

// P5.3: a long text, each length of which is a place, and some of which are.
func TestPlacesLong(t *testing.T) {
	s := anyText(100000, 2)
	for i, n := range Places(s, 1) {
		if n != i+1 {
			t.Fatalf("Places by 1, at %d: %d", i, n)
		}
	}
	if l := Places(s, 1); len(l) != len(s) {
		t.Errorf("Places by 1 of %d bytes: %d", len(s), len(l))
	}
	l := Places(s, 1000)
	if len(l) < 20 || len(l) > 500 || !slices.IsSorted(l) {
		t.Fatalf("Places by 1000 of %d bytes: %v", len(s), l)
	}
	for _, n := range l {
		if byWords(s[:n])%1000 != 999 {
			t.Errorf("Places by 1000: %d, where the hash is %d", n, byWords(s[:n]))
		}
	}
}

// P5.3: numbers that divide nothing.
func TestPlacesWrong(t *testing.T) {
	for _, div := range []int{0, -1, -2, -3, -256, -greatest, -greatest - 1, -greatest - 2, -1 << 32, -1<<32 + 1, math.MinInt + 1, math.MinInt} {
		for _, s := range []string{"", "a", zeroText, greatestText, anyText(100, 1)} {
			if l := Places(s, div); len(l) != 0 {
				t.Errorf("Places(%q, %d): %v", s, div, l)
			}
		}
	}
}

// Rule 4: a list that was changed changes no later one.
func TestNewMemory(t *testing.T) {
	s := anyText(40, 6)
	hashes, places := All(s), Places(s, 1)
	for i := range hashes {
		hashes[i], places[i] = 7, 7
	}
	if l := All(s); l[0] != byWords(s[:1]) || l[39] != byWords(s) {
		t.Errorf("All behind a change of its list: %v", l)
	}
	if l := Places(s, 1); l[0] != 1 || l[39] != 40 {
		t.Errorf("Places behind a change of their list: %v", l)
	}
}

// P5.5: bytes ahead of the last 16 count nothing, and each of the 16 does.
func TestWindow(t *testing.T) {
	end := anyText(16, 11)
	want := byWords(end)
	for n := range 50 {
		for _, ahead := range []string{anyText(n, 1), anyText(n, 2), strings.Repeat("\x00", n), strings.Repeat("\xff", n)} {
			if h := Sum(ahead + end); h != want {
				t.Errorf("Sum with %d bytes ahead of the window: %d, not %d", n, h, want)
			}
			if l := All(ahead + end); l[len(l)-1] != want {
				t.Errorf("All with %d bytes ahead of the window: %d, not %d", n, l[len(l)-1], want)
			}
		}
	}
	for i := range end {
		for b := range 256 {
			other := end[:i] + string([]byte{byte(b)}) + end[i+1:]
			if same := Sum("ahead"+other) == want; same != (other == end) {
				t.Errorf("Sum with byte %d at %d of the window: same %t", b, i, same)
			}
		}
	}
}

// P5.5: sliding through a text gives the hash of each window, of each prefix.
func TestSlideAndSum(t *testing.T) {
	for _, s := range []string{anyText(3000, 8), strings.Repeat("\x00", 100), strings.Repeat("\xff", 100), strings.Repeat(greatestText, 30), strings.Repeat(zeroText, 30)} {
		h := Sum(s[:16])
		l := All(s)
		for i := 16; i < len(s); i++ {
			h, _ = Slide(h, s[i-16], s[i])
			if h != Sum(s[i-15:i+1]) || h != Sum(s[:i+1]) || h != l[i] {
				t.Fatalf("at %d: slid %d, Sum of the window %d, Sum %d, All %d", i, h, Sum(s[i-15:i+1]), Sum(s[:i+1]), l[i])
			}
		}
	}
}

// FuzzRoll holds all calls of any text against the document's words.
func FuzzRoll(f *testing.F) {
	for _, s := range []string{"", "ab", greatestText, zeroText, "0123456789abcdef", "x0123456789abcdefg"} {
		f.Add(s, 2)
		f.Add(s, greatest+1)
	}
	f.Fuzz(func(t *testing.T, s string, div int) {
		l := All(s)
		if len(l) != len(s) || Sum(s) != byWords(s) {
			t.Fatalf("%q: All %v, Sum %d", s, l, Sum(s))
		}
		r := New()
		for i := range len(s) {
			if h := byWords(s[:i+1]); l[i] != h || r.Push(s[i]) != h || r.Sum() != h || r.Len() != i+1 {
				t.Fatalf("%q, at %d: All %d, Sum of the Roll %d, Len %d, not %d", s, i, l[i], r.Sum(), r.Len(), h)
			}
		}
		if places := Places(s, div); div > 0 && !slices.Equal(places, placesByWords(s, div)) || div < 1 && len(places) > 0 {
			t.Fatalf("Places(%q, %d): %v", s, div, places)
		}
	})
}
