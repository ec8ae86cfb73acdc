package sha

import (
	"crypto/sha256"
	"encoding"
	"encoding/binary"
	"math"
	"math/big"
	"math/bits"
	"strings"
	"testing"

	"sheaf/api"
)

// anyText returns n bytes that look like any; another seed gives other ones.
func anyText(n int, seed uint32) string {
	b := make([]byte, n)
	for i := range b {
		seed = seed*1664525 + 1013904223
		b[i] = byte(seed >> 24)
	}
	return string(b)
}

// states returns the initial state, and others of any words.
func states() [][8]uint32 {
	l := [][8]uint32{Start(), {}}
	var ones, anyWords [8]uint32
	for i := range ones {
		ones[i] = math.MaxUint32
	}
	seed := uint32(3)
	for range 20 {
		for i := range anyWords {
			seed = seed*1664525 + 1013904223
			anyWords[i] = bits.RotateLeft32(seed, 13) * 0x9E3779B1
		}
		l = append(l, anyWords)
	}
	return append(l, ones)
}

func primes(n int) []int64 {
	var l []int64
	for p := int64(2); len(l) < n; p++ {
		if big.NewInt(p).ProbablyPrime(0) {
			l = append(l, p)
		}
	}
	return l
}

// rootBits returns the first 32 bits of the fractional part of the root of p: the square root, or the cube root.
func rootBits(p int64, degree int) uint32 {
	// The greatest whole number whose power is not above p * 2^(32 * degree), bit by bit.
	top := new(big.Int).Lsh(big.NewInt(p), uint(32*degree))
	root := new(big.Int)
	for i := 39; i >= 0; i-- {
		more := new(big.Int).SetBit(root, i, 1)
		if new(big.Int).Exp(more, big.NewInt(int64(degree)), nil).Cmp(top) <= 0 {
			root = more
		}
	}
	return uint32(root.Uint64())
}

// turned rotates a word bit by bit, as the document's words say it; dropped shifts it.
func turned(x uint32, n int) uint32 {
	for range n {
		x = x/2 + x%2*(1<<31)
	}
	return x
}

func dropped(x uint32, n int) uint32 {
	for range n {
		x /= 2
	}
	return x
}

// blockByWords processes a block as the document's words say it, with nothing of the program but the constants, which are tested by themselves.
func blockByWords(state [8]uint32, block string) [8]uint32 {
	w := make([]uint32, 64)
	for t := range 64 {
		if t < 16 {
			w[t] = binary.BigEndian.Uint32([]byte(block[4*t:]))
			continue
		}
		x, y := w[t-2], w[t-15]
		s1 := turned(x, 17) ^ turned(x, 19) ^ dropped(x, 10)
		s0 := turned(y, 7) ^ turned(y, 18) ^ dropped(y, 3)
		w[t] = s1 + w[t-7] + s0 + w[t-16]
	}
	v := state
	for t := range 64 {
		a, b, c, e, f, g, h := v[0], v[1], v[2], v[4], v[5], v[6], v[7]
		t1 := h + (turned(e, 6) ^ turned(e, 11) ^ turned(e, 25)) + ((e & f) ^ ((^e) & g)) + rounds[t] + w[t]
		t2 := (turned(a, 2) ^ turned(a, 13) ^ turned(a, 22)) + ((a & b) ^ (a & c) ^ (b & c))
		v = [8]uint32{t1 + t2, a, b, c, v[3] + t1, e, f, g}
	}
	for i := range v {
		v[i] += state[i]
	}
	return v
}

// blockByLibrary lets Go's own SHA-256 process a block from any state.
func blockByLibrary(t *testing.T, state [8]uint32, block string) [8]uint32 {
	t.Helper()
	saved := []byte("sha\x03")
	for _, n := range state {
		saved = binary.BigEndian.AppendUint32(saved, n)
	}
	saved = append(saved, make([]byte, 64+8)...)
	h := sha256.New()
	if err := h.(encoding.BinaryUnmarshaler).UnmarshalBinary(saved); err != nil {
		t.Fatal(err)
	}
	h.Write([]byte(block))
	saved, err := h.(encoding.BinaryMarshaler).MarshalBinary()
	if err != nil {
		t.Fatal(err)
	}
	var out [8]uint32
	for i := range out {
		out[i] = binary.BigEndian.Uint32(saved[4+4*i:])
	}
	return out
}

// P3.1 and the chapter's Words: H(0) to H(7) and K(0) to K(63) are bits of roots of primes.
func TestConstants(t *testing.T) {
	l := primes(64)
	if l[63] != 311 {
		t.Fatalf("the 64th prime: %d", l[63])
	}
	for i, n := range Start() {
		if want := rootBits(l[i], 2); n != want {
			t.Errorf("H(%d): %08X, not %08X", i, n, want)
		}
	}
	for i, n := range rounds {
		if want := rootBits(l[i], 3); n != want {
			t.Errorf("K(%d): %08X, not %08X", i, n, want)
		}
	}
}

// P3.1: Start gives a state of its own each time.
func TestStartTwice(t *testing.T) {
	s := Start()
	s[0], s[7] = 0, 0
	if Start() == s || Start() != Start() || Start()[0] != 0x6A09E667 || Start()[7] != 0x5BE0CD19 {
		t.Errorf("Start: %08X", Start())
	}
}

// P3.1: a block that is known: the only one of the text abc, and that of the empty text.
func TestBlockKnown(t *testing.T) {
	for _, c := range []struct {
		block string
		want  [8]uint32
	}{
		{
			"abc\x80" + strings.Repeat("\x00", 59) + "\x18",
			[8]uint32{0xBA7816BF, 0x8F01CFEA, 0x414140DE, 0x5DAE2223, 0xB00361A3, 0x96177A9C, 0xB410FF61, 0xF20015AD},
		},
		{
			"\x80" + strings.Repeat("\x00", 63),
			[8]uint32{0xE3B0C442, 0x98FC1C14, 0x9AFBF4C8, 0x996FB924, 0x27AE41E4, 0x649B934C, 0xA495991B, 0x7852B855},
		},
	} {
		if s, e := Block(Start(), c.block); s != c.want || e != api.OK {
			t.Errorf("Block(%q): %08X %d", c.block, s, e)
		}
	}
}

// P3.1: blocks of any bytes, processed from any state, by the document's words and by Go's library.
func TestBlock(t *testing.T) {
	blocks := []string{strings.Repeat("\x00", 64), strings.Repeat("\xff", 64)}
	for n := range 20 {
		blocks = append(blocks, anyText(64, uint32(n)))
	}
	for i := range 64 {
		one := make([]byte, 64)
		one[i] = 1 << (i % 8)
		blocks = append(blocks, string(one))
	}
	for _, state := range states() {
		for _, block := range blocks {
			before := state
			s, e := Block(state, block)
			if want := blockByWords(state, block); s != want || e != api.OK {
				t.Fatalf("Block(%08X, %q): %08X %d, not %08X", state, block, s, e, want)
			}
			if want := blockByLibrary(t, state, block); s != want {
				t.Fatalf("Block(%08X, %q): %08X, not %08X", state, block, s, want)
			}
			if state != before {
				t.Fatalf("Block changed its state: %08X, not %08X", state, before)
			}
		}
	}
}

// P3.1: what is no block, whatever the state is: ErrArg, and no state beside it.
func TestBlockWrong(t *testing.T) {
	for n := range 200 {
		for _, state := range states() {
			s, e := Block(state, anyText(n, 1))
			if n != 64 && (s != [8]uint32{} || e != api.ErrArg) {
				t.Errorf("Block of %d bytes: %08X %d", n, s, e)
			}
			if n == 64 && e != api.OK {
				t.Errorf("Block of 64 bytes: %d", e)
			}
		}
	}
	for _, n := range []int{4096, 65536} {
		if s, e := Block(Start(), anyText(n, 1)); s != [8]uint32{} || e != api.ErrArg {
			t.Errorf("Block of %d bytes: %08X %d", n, s, e)
		}
	}
	if _, e := Block(Start(), strings.Repeat("ä", 64)); e != api.ErrArg {
		t.Errorf("Block of 64 signs of two bytes: %d", e)
	}
}

// padByWords is what follows a text of n bytes, as the document's words say it.
func padByWords(n int) string {
	length := make([]byte, 8)
	k := new(big.Int).Mul(big.NewInt(int64(n)), big.NewInt(8))
	zeros := 0
	for (n%64+1+zeros)%64 != 64-8 {
		zeros++
	}
	return "\x80" + strings.Repeat("\x00", zeros) + string(k.FillBytes(length))
}

// P3.1: Pad of lengths around whole numbers of blocks, and of great ones, up to the greatest whose bits 8 bytes can count.
func TestPad(t *testing.T) {
	var l []int
	for n := range 400 {
		l = append(l, n)
	}
	for _, n := range []int{1 << 13, 1 << 16, 1 << 20, 1 << 24, 1 << 29, 1 << 31, 1 << 32, 1 << 40, 1 << 56, 1 << 61} {
		for k := 1; k <= 130; k++ {
			l = append(l, n-k)
		}
		if n < 1<<61 {
			l = append(l, n, n+1, n+55, n+56, n+63)
		}
	}
	for _, n := range l {
		if s, e := Pad(n); s != padByWords(n) || e != api.OK {
			t.Errorf("Pad(%d): %q %d, not %q", n, s, e, padByWords(n))
		}
	}
}

// P3.1: how many bytes Pad returns.
func TestPadLen(t *testing.T) {
	for n, want := range map[int]int{
		0: 64, 1: 63, 54: 10, 55: 9, 56: 72, 57: 71, 63: 65, 64: 64, 65: 63,
		118: 10, 119: 9, 120: 72, 127: 65, 128: 64, 183: 9, 184: 72, math.MaxInt32: 65, math.MaxInt: 65,
	} {
		if s, e := Pad(n); len(s) != want || e != api.OK {
			t.Errorf("Pad(%d): %d bytes, not %d, and %d", n, len(s), want, e)
		}
	}
	if s, _ := Pad(0); s != "\x80"+strings.Repeat("\x00", 63) {
		t.Errorf("Pad(0): %q", s)
	}
	if s, _ := Pad(math.MaxInt32); !strings.HasSuffix(s, "\x00\x00\x00\x03\xff\xff\xff\xf8") {
		t.Errorf("Pad of the greatest length of which anything is promised: %q", s)
	}
}

// P3.1: Pad of a length below 0.
func TestPadWrong(t *testing.T) {
	for _, n := range []int{-1, -8, -55, -56, -63, -64, -65, -128, math.MinInt32, math.MinInt + 1, math.MinInt} {
		if s, e := Pad(n); s != "" || e != api.ErrArg {
			t.Errorf("Pad(%d): %q %d", n, s, e)
		}
	}
}
