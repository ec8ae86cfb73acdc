package box

import (
	"fmt"
	"math"
	"slices"
	"strings"
	"testing"

	"sheaf/api"
)

// P14.3: each chunk of boxes, and slots that there are not.
func TestChunk(t *testing.T) {
	for _, l := range someBoxes() {
		s := built(t, 6, l...)
		for i, c := range l {
			if got, e := Chunk(s, i); got != c || e != api.OK {
				t.Errorf("%s: Chunk %d: %q %d", listed(l), i, cropped(got), e)
			}
		}
		for _, slot := range append(edges(), len(l), len(l)+1) {
			if slot >= 0 && slot < len(l) {
				continue
			}
			if got, e := Chunk(s, slot); got != "" || e != api.ErrRange {
				t.Errorf("%s: Chunk %d: %q %d", listed(l), slot, cropped(got), e)
			}
		}
		if got, e := Chunks(s); !slices.Equal(got, l) || e != api.OK {
			t.Errorf("Chunks: %s, not %s, %d", listed(got), listed(l), e)
		}
	}
}

// P14.3: the errors' order: a head that is not correct ahead of a slot that there is not, and this one ahead of a chunk that
// is damaged.
func TestChunkOrder(t *testing.T) {
	s := built(t, 6, "abc", "de")
	body := s[:26] + "ABCDE"
	for slot, want := range map[int]api.Errno{math.MinInt: api.ErrRange, -1: api.ErrRange, 0: api.ErrCorrupt, 1: api.ErrCorrupt, 2: api.ErrRange, math.MaxInt: api.ErrRange} {
		c, e := Chunk(body, slot)
		expectErr(t, fmt.Sprintf("slot %d, damaged chunks", slot), e, want)
		for what, bad := range map[string]string{"a head": "T" + body[1:], "an end": body[:30], "all but": s + "x", "nothing": ""} {
			wrong, e := Chunk(bad, slot)
			expectErr(t, fmt.Sprintf("slot %d, %s damaged", slot, what), e, api.ErrCorrupt)
			c += wrong
		}
		if c != "" {
			t.Errorf("slot %d: %q beside an error", slot, c)
		}
	}
}

// P14.3: each byte of the chunks with each other value.
func TestChunkBytes(t *testing.T) {
	l := []string{"ab", "c", "\x00\x00\x00\x00\x00"}
	s := built(t, 6, l...)
	slots := []int{0, 0, 1, 2, 2, 2, 2, 2}
	for at, slot := range slots {
		for by := 1; by < 256; by++ {
			b := []byte(s)
			b[14+6*3+at] ^= byte(by)
			expectDamaged(t, fmt.Sprintf("byte %d changed by %d", at, by), string(b), l, slot)
		}
	}
}

// expectDamaged holds what is read of a box of which one chunk is damaged.
func expectDamaged(t *testing.T, what, s string, l []string, damaged int) {
	t.Helper()
	if h, e := Head(s); e != api.OK || len(h.Slots) != len(l) {
		t.Errorf("%s: Head %s, %d", what, told(h), e)
	}
	for i, c := range l {
		want, wantE := c, api.OK
		if i == damaged {
			want, wantE = "", api.ErrCorrupt
		}
		if got, e := Chunk(s, i); got != want || e != wantE {
			t.Errorf("%s: Chunk %d: %q %d, not %q %d", what, i, cropped(got), e, cropped(want), wantE)
		}
	}
	if got, e := Chunks(s); len(got) != 0 || e != api.ErrCorrupt {
		t.Errorf("%s: Chunks %s, %d", what, listed(got), e)
	}
}

// bursts returns bits of bursts of n bits: the first and the last one of them are turned.
func bursts(n int) []uint32 {
	ends := uint32(1) | 1<<(n-1)
	inner := uint32(1)<<(n-1) - 1
	l := []uint32{ends, ends | inner, ends | inner&0xaaaaaaaa, ends | inner&0x33333333, ends | inner&0x9e3779b1, ends | inner&0x04c11db7}
	slices.Sort(l)
	return slices.Compact(l)
}

// P14.6: bursts of 1 to 32 bits at each place of each chunk of a box: that chunk is rejected, all others are returned.
func TestBursts(t *testing.T) {
	for _, l := range [][]string{{"abcdef", "g", "hijk", "lmnopqrs"}, {"\x00"}, {"\x00\x00\x00\x00\x00\x00\x00"}, {"aaaa", "aaaa", "aaaaa"}} {
		s := built(t, 8, l...)
		from := 8 * (14 + 6*len(l))
		for slot, c := range l {
			for n := 1; n <= min(32, 8*len(c)); n++ {
				for at := range 8*len(c) - n + 1 {
					for _, bits := range bursts(n) {
						what := fmt.Sprintf("bits %x from bit %d of slot %d on", bits, at, slot)
						expectDamaged(t, what, turned(s, from+at, bits), l, slot)
					}
				}
			}
			from += 8 * len(c)
		}
	}
}

// P14.3, P14.6: bursts at each place, also such as damage several chunks, or the end of the head, too.
func TestBurstsAcross(t *testing.T) {
	l := []string{"ab", "c", "d", "efghi", "j"}
	s := built(t, 8, l...)
	from := 14 + 6*len(l)
	for at := 8 * (from - 5); at < 8*len(s); at++ {
		for n := 1; n <= 32; n++ {
			for _, bits := range bursts(n) {
				damaged := turned(s, at, bits)
				what := fmt.Sprintf("bits %x from bit %d on", bits, at)
				if ok := expectBytes(t, what, damaged); ok != (damaged[:from] == s[:from]) {
					t.Errorf("%s: a correct head, %v", what, ok)
				}
				k := from
				for slot, c := range l {
					if got, e := Chunk(damaged, slot); e == api.OK && (got != c || damaged[k:k+len(c)] != c) {
						t.Errorf("%s: Chunk %d: %q", what, slot, got)
					}
					k += len(c)
				}
			}
		}
	}
}

// P14.6: bursts in the longest chunks, first, last and amid others.
func TestBurstsLong(t *testing.T) {
	l := texts(4096, 4096, 1, 4096, 4095)
	s := built(t, mostID, l...)
	next := anyNumbers(3)
	for slot, c := range l {
		at, _, _ := whereByWords(headOf(mostID, l...), slot)
		for n := 1; n <= min(32, 8*len(c)); n++ {
			for _, k := range []int{0, 8*len(c) - n, next(8*len(c) - n + 1)} {
				expectDamaged(t, fmt.Sprintf("%d bits from bit %d of slot %d on", n, k, slot), turned(s, 8*at+k, bursts(n)[0]), l, slot)
			}
		}
	}
}

// P14.3: a change of more bits than those of a burst, which keeps a chunk's CRC: the chunk is another one, and returned.
func TestChunkForged(t *testing.T) {
	// The bits of the polynomial, and of the power behind them, as the CRC takes them: they add nothing to any sum.
	zero := "\x41\x06\x71\xdb\x01"
	b := []byte("abcde")
	for i := range b {
		b[i] ^= zero[i]
	}
	if slotByWords(string(b)) != slotByWords("abcde") {
		t.Fatal("not as it was meant: another CRC")
	}
	s := built(t, 2, "abcde", "f")
	forged := strings.Replace(s, "abcde", string(b), 1)
	expectBytes(t, "forged", forged)
	if c, e := Chunk(forged, 0); c != string(b) || e != api.OK {
		t.Errorf("Chunk: %q %d", c, e)
	}
}

// P14.5: bytes with a correct head and correct chunks are what Build returns, for boxes changed at any place.
func TestBuiltAgain(t *testing.T) {
	next := anyNumbers(9)
	for range 400 {
		l := anyChunks(next)
		s := built(t, uint32(1+next(1<<24)), l...)
		expectBytes(t, "any", s)
		at := next(8 * len(s))
		expectBytes(t, "any, damaged", turned(s, at, uint32(1+next(1<<24))))
		end := 14 + 6*len(l)
		b := []byte(s)
		b[next(end-4)] ^= byte(1 + next(255))
		expectBytes(t, "any, another head", sealed(string(b[:end-4]))+s[end:])
	}
}
