package crc

import (
	"fmt"
	"hash/crc32"
	"math"
	"strings"
	"testing"

	"sheaf/api"
)

// text returns n bytes that look like any; another seed gives other ones.
func text(n int, seed uint32) string {
	b := make([]byte, n)
	for i := range b {
		seed = seed*1664525 + 1013904223
		b[i] = byte(seed >> 24)
	}
	return string(b)
}

// texts returns texts of many lengths: of any bytes, of zero bytes, and of bytes with all bits 1.
func texts() []string {
	var l []string
	for n := range 41 {
		l = append(l, text(n, uint32(n)), strings.Repeat("\x00", n), strings.Repeat("\xff", n))
	}
	for _, n := range []int{api.Sector - 1, api.Sector, api.Sector + 1, api.MaxChunk} {
		l = append(l, text(n, 7))
	}
	return append(l, "123456789", "ä", "\x00a", "a\x00")
}

// bitsOf returns the bits of a text, in the document's order.
func bitsOf(s string) []byte {
	var l []byte
	for _, c := range []byte(s) {
		for i := range 8 {
			l = append(l, c>>i&1)
		}
	}
	return l
}

// stepped returns n after so many steps, one by one.
func stepped(n uint32, steps int) uint32 {
	for range steps {
		odd := n%2 == 1
		n /= 2
		if odd {
			n ^= 0xEDB88320
		}
	}
	return n
}

// continued goes on from the complement of sum, bit by bit, as the document's words say it.
func continued(sum uint32, s string) uint32 {
	n := math.MaxUint32 - sum
	for _, bit := range bitsOf(s) {
		if bit == 1 {
			n ^= 1
		}
		n = stepped(n, 1)
	}
	return math.MaxUint32 - n
}

// divided is the document's other way to the same sum: the bits of s and 32
// zero bits, the first 32 of all inverted, divided by the polynomial.
func divided(s string) uint32 {
	l := append(bitsOf(s), make([]byte, 32)...)
	for i := range 32 {
		l[i] ^= 1
	}
	for i := range len(l) - 32 {
		if l[i] == 0 {
			continue
		}
		for j := range 33 {
			l[i+j] ^= byte(uint64(0x104C11DB7) >> (32 - j) & 1)
		}
	}
	var sum uint32
	for i, bit := range l[len(l)-32:] {
		sum |= uint32(1-bit) << i
	}
	return sum
}

// P2.1, and the chapter's example: sums that are known.
func TestSumKnown(t *testing.T) {
	for _, c := range []struct {
		s    string
		want uint32
	}{
		{"", 0},
		{"a", 0xE8B7BE43},
		{"abc", 0x352441C2},
		{"123456789", 0xCBF43926},
		{"\x00", 0xD202EF8D},
		{"\x00\x00\x00\x00", 0x2144DF1C},
		{"\xff\xff\xff\xff", 0xFFFFFFFF},
	} {
		if n := Sum(c.s); n != c.want {
			t.Errorf("Sum(%q): %08X, not %08X", c.s, n, c.want)
		}
	}
}

// P2.1: Sum of every byte, and of many texts, by both of the document's ways.
func TestSum(t *testing.T) {
	l := texts()
	for n := range 256 {
		l = append(l, string([]byte{byte(n)}), string([]byte{'x', byte(n), 0}))
	}
	for _, s := range l {
		n := Sum(s)
		if n != continued(0, s) || n != divided(s) || n != crc32.ChecksumIEEE([]byte(s)) {
			t.Errorf("Sum of %d bytes, %.20q: %08X, not %08X, %08X", len(s), s, n, continued(0, s), divided(s))
		}
	}
}

// P2.1: Sum of a text of the greatest size that the program keeps.
func TestSumLong(t *testing.T) {
	s := text(api.MaxBlob, 3)
	if n := Sum(s); n != crc32.ChecksumIEEE([]byte(s)) {
		t.Errorf("%08X", n)
	}
}

// numbers returns numbers of 32 bits: every single bit, the ends, and some others.
func numbers() []uint32 {
	l := []uint32{0, 1, 5, math.MaxUint32, math.MaxUint32 - 1, math.MaxInt32, 0xEDB88320, 0xCBF43926}
	for i := range 32 {
		l = append(l, 1<<i)
	}
	return l
}

// P2.1: More goes on from any number, and by the empty text it stays.
func TestMore(t *testing.T) {
	for _, sum := range numbers() {
		if n := More(sum, ""); n != sum {
			t.Errorf("More(%08X) by nothing: %08X", sum, n)
		}
		for _, s := range []string{"a", "\x00", "\xff", "123456789", text(64, 1)} {
			if n := More(sum, s); n != continued(sum, s) {
				t.Errorf("More(%08X, %q): %08X, not %08X", sum, s, n, continued(sum, s))
			}
		}
	}
}

// P2.1: More of the sum of one text is the sum of it and what follows.
func TestMoreOfSum(t *testing.T) {
	for _, a := range texts() {
		if n := More(0, a); n != Sum(a) {
			t.Errorf("More(0) by %d bytes: %08X", len(a), n)
		}
		for _, b := range []string{"", "b", "\x00\x00", "56789", text(130, 2)} {
			if n := More(Sum(a), b); n != continued(0, a+b) {
				t.Errorf("More of %d bytes by %d: %08X", len(a), len(b), n)
			}
		}
	}
}

// P2.1: Join steps a 8 n times and takes b to it, whatever a and b are.
func TestJoin(t *testing.T) {
	for n := range 70 {
		for _, a := range numbers() {
			want := stepped(a, 8*n)
			for _, b := range []uint32{0, 3, a, math.MaxUint32} {
				if got := Join(a, b, n); got != want^b {
					t.Errorf("Join(%08X, %08X, %d): %08X, not %08X", a, b, n, got, want^b)
				}
			}
		}
	}
	for _, n := range []int{255, 256, 257, 1000, 65535, 65536, 65537, 1 << 20} {
		if got, want := Join(0xCBF43926, 9, n), stepped(0xCBF43926, 8*n)^9; got != want {
			t.Errorf("Join with %d: %08X, not %08X", n, got, want)
		}
	}
}

// P2.1: Join with n of 0, and with n below 0, which counts as 0.
func TestJoinNothing(t *testing.T) {
	for _, n := range []int{0, -1, -2, -8, math.MinInt32, math.MinInt + 1, math.MinInt} {
		for _, a := range numbers() {
			for _, b := range []uint32{0, 3, a, math.MaxUint32} {
				if got := Join(a, b, n); got != a^b {
					t.Errorf("Join(%08X, %08X, %d): %08X", a, b, n, got)
				}
			}
		}
	}
}

// P2.1: Join with great n. The steps of the polynomial come round after
// 2^32 - 1, so that n counts modulo that.
func TestJoinGreat(t *testing.T) {
	const round = 1<<32 - 1
	for _, c := range []struct{ n, same int }{
		{round, 0},
		{round + 1, 1},
		{round - 1 + 300, 299},
		{1 << 40, 1 << 8},
		{3*round + 77, 77},
		{math.MaxInt, math.MaxInt32},
	} {
		for _, a := range numbers() {
			if got, want := Join(a, 6, c.n), Join(a, 6, c.same); got != want {
				t.Errorf("Join(%08X, 6, %d): %08X, not %08X", a, c.n, got, want)
			}
		}
	}
	for _, n := range []int{math.MaxInt32, math.MaxInt, 1 << 62} {
		if got, want := Join(Join(5, 0, n-7), 0, 7), Join(5, 0, n); got != want {
			t.Errorf("Join with %d, in two: %08X, not %08X", n, got, want)
		}
	}
}

// P2.1: Join of the sums of two texts is the sum of both together.
func TestJoinOfSums(t *testing.T) {
	for _, a := range texts() {
		for _, b := range []string{"", "b", "\x00", "56789", text(api.Sector, 5), text(1000, 6)} {
			if n := Join(Sum(a), Sum(b), len(b)); n != continued(0, a+b) {
				t.Errorf("Join of %d bytes and %d: %08X", len(a), len(b), n)
			}
		}
	}
}

// P2.2, and the chapter's example: seals that are known.
func TestSealKnown(t *testing.T) {
	for _, c := range []struct{ s, want string }{
		{"", "\x00\x00\x00\x00"},
		{"123456789", "123456789\x26\x39\xf4\xcb"},
		{"\x00\x00\x00\x00", "\x00\x00\x00\x00\x1c\xdf\x44\x21"},
		{"\xff\xff\xff\xff", "\xff\xff\xff\xff\xff\xff\xff\xff"},
	} {
		if got := Seal(c.s); got != c.want {
			t.Errorf("Seal(%q): %q, not %q", c.s, got, c.want)
		}
	}
}

// P2.2: a seal is the sum, the least significant byte first; what is sealed is opened.
func TestSealOpen(t *testing.T) {
	for _, s := range append(texts(), text(api.MaxText, 8)) {
		n := continued(0, s)
		want := s + string([]byte{byte(n), byte(n >> 8), byte(n >> 16), byte(n >> 24)})
		sealed := Seal(s)
		if sealed != want {
			t.Errorf("Seal of %d bytes, %.20q: %d bytes, not as wanted", len(s), s, len(sealed))
		}
		opens(t, sealed, s, api.OK)
		opens(t, Seal(sealed), sealed, api.OK)
	}
}

func opens(t *testing.T, s, want string, e api.Errno) {
	t.Helper()
	if got, err := Open(s); got != want || err != e {
		t.Errorf("Open of %d bytes, %.20q: %d bytes and error %d; not %d bytes and error %d", len(s), s, len(got), err, len(want), e)
	}
}

// P2.2: a text that is too short, and texts of just 4 bytes.
func TestOpenShort(t *testing.T) {
	for _, s := range []string{"", "\x00", "\x00\x00", "\x00\x00\x00", "a", "ab", "abc", "\xff\xff\xff"} {
		opens(t, s, "", api.ErrForm)
	}
	opens(t, "\x00\x00\x00\x00", "", api.OK)
	for _, s := range []string{"abcd", "\x01\x00\x00\x00", "\x00\x00\x00\x80", "\xff\xff\xff\xff"} {
		opens(t, s, "", api.ErrCorrupt)
	}
}

// P2.2: a sealed text of which any bit is changed, or bytes lack or are too many or elsewhere.
func TestOpenWrong(t *testing.T) {
	for _, s := range []string{"", "a", "123456789", "\x00\x00\x00\x00", text(100, 9)} {
		sealed := Seal(s)
		for at := range 8 * len(sealed) {
			b := []byte(sealed)
			b[at/8] ^= 1 << (at % 8)
			opens(t, string(b), "", api.ErrCorrupt)
		}
		opens(t, sealed+"\x01", "", api.ErrCorrupt)
	}
	opens(t, "123456789\xcb\xf4\x39\x26", "", api.ErrCorrupt)
	opens(t, "\x26\x39\xf4\xcb123456789", "", api.ErrCorrupt)
	opens(t, "123456789\x26\x39\xf4", "", api.ErrCorrupt)
	opens(t, "123456789", "", api.ErrCorrupt)
	opens(t, "213456789\x26\x39\xf4\xcb", "", api.ErrCorrupt)
	opens(t, "23456789\x26\x39\xf4\xcb", "", api.ErrCorrupt)
}

// P2.4: a text divided in two, or in three, has the sum that its parts give.
func TestPieces(t *testing.T) {
	s := text(60, 10)
	want := continued(0, s)
	for i := range len(s) + 1 {
		for j := i; j <= len(s); j++ {
			a, b, c := s[:i], s[i:j], s[j:]
			if n := More(More(More(0, a), b), c); n != want {
				t.Errorf("More, divided at %d and %d: %08X, not %08X", i, j, n, want)
			}
			left := Join(Join(Sum(a), Sum(b), len(b)), Sum(c), len(c))
			right := Join(Sum(a), Join(Sum(b), Sum(c), len(c)), len(b)+len(c))
			mixed := Join(Sum(a), More(Sum(b), c), len(b)+len(c))
			if left != want || right != want || mixed != want {
				t.Errorf("Join, divided at %d and %d: %08X, %08X, %08X, not %08X", i, j, left, right, mixed, want)
			}
		}
	}
}

// P2.4: a long text in pieces of any one length, the last one of what is left.
func TestManyPieces(t *testing.T) {
	s := text(1<<16, 11)
	want := crc32.ChecksumIEEE([]byte(s))
	for _, size := range []int{1, 2, 3, 16, 127, api.Sector, 1000, api.MaxChunk, len(s) - 1, len(s)} {
		var more, join uint32
		for at := 0; at < len(s); at += size {
			piece := s[at:min(at+size, len(s))]
			more, join = More(more, piece), Join(join, Sum(piece), len(piece))
		}
		if more != want || join != want {
			t.Errorf("in pieces of %d: %08X, %08X, not %08X", size, more, join, want)
		}
	}
}

func ExampleSum() {
	fmt.Printf("%08X\n", Sum("123456789"))
	// Output: CBF43926
}
