package box

import (
	"fmt"
	"math"
	"slices"
	"strings"
	"testing"

	"sheaf/api"
)

// someBoxes returns the chunks of boxes: one with little, one with all bytes of its numbers, and ones at the edges.
func someBoxes() [][]string {
	return [][]string{{"x"}, {"ab", "c"}, texts(5, 1, 300, 2), texts(256, 257, 4096), times(256, 1), times(256, 256), times(16, 4096)}
}

// built returns a box that is valid, by the document's words.
func built(t *testing.T, id uint32, chunks ...string) string {
	t.Helper()
	s, e := buildByWords(id, chunks)
	if e != api.OK {
		t.Fatalf("ID %d, %s: no box", id, listed(chunks))
	}
	return s
}

// P14.2, P14.3: no bytes, few, and boxes cut at each byte of their head, and elsewhere.
func TestHeadCut(t *testing.T) {
	for _, l := range someBoxes() {
		s := built(t, 0x01020304, l...)
		end := 14 + 6*len(l)
		for n := range s {
			if n < min(end+30, 400) || n > len(s)-3 || n%1021 == 0 || end-2 < n && n < end+3 {
				expectCorrupt(t, "cut", s[:n])
				expectBytes(t, "cut and filled", s[:n]+strings.Repeat("\x00", len(s)-n-1)+"~")
				expectCorrupt(t, "from behind", s[len(s)-n:])
			}
		}
		expectCorrupt(t, "the head alone", s[:end])
		if !expectBytes(t, "whole", s) {
			t.Errorf("no correct head: %s", listed(l))
		}
	}
	for n := range 64 {
		for _, c := range []string{"\x00", "\xff", "S", "SBOX", "SBOX\x01\x00\x00\x00\x01\x00"} {
			expectCorrupt(t, "one thing", strings.Repeat(c, n))
			expectCorrupt(t, "one thing, sealed", sealed(strings.Repeat(c, n)))
		}
	}
}

// P14.2, P14.3: each bit of a head turned, and each of its bytes with each other value, also with a CRC that is right then.
func TestHeadBytes(t *testing.T) {
	for _, l := range someBoxes()[:3] {
		s := built(t, 0x01020304, l...)
		end := 14 + 6*len(l)
		for bit := range 8 * end {
			expectCorrupt(t, fmt.Sprint("bit ", bit), turned(s, bit, 1))
		}
		for at := range end {
			for by := 1; by < 256; by++ {
				b := []byte(s)
				b[at] ^= byte(by)
				what := fmt.Sprintf("byte %d changed by %d", at, by)
				expectCorrupt(t, what, string(b))
				if at < end-4 {
					expectBytes(t, what+", right CRC", sealed(string(b[:end-4]))+s[end:])
				}
			}
		}
	}
	long := built(t, 5, times(256, 2)...)
	for bit := 0; bit < 8*(14+6*256); bit += 7 {
		if _, e := Head(turned(long, bit, 1)); e != api.ErrCorrupt {
			t.Errorf("bit %d of a long head: %d", bit, e)
		}
	}
}

// P14.2: bursts of up to 32 bits in a head, at each place.
func TestHeadBursts(t *testing.T) {
	s := built(t, 9, "ab", "c")
	for bit := range 8 * 26 {
		for _, bits := range []uint32{1, 3, 5, 255, 1 << 31, 1<<31 | 1, math.MaxUint32, 0x80402011} {
			expectBytes(t, fmt.Sprintf("bits %x from %d on", bits, bit), turned(s, bit, bits))
		}
	}
}

// P14.2, P14.3: bytes behind a box.
func TestHeadLonger(t *testing.T) {
	for _, l := range someBoxes() {
		s := built(t, 7, l...)
		for _, behind := range []string{"\x00", "x", strings.Repeat("\x00", 100), s, l[0], strings.Repeat("y", 1<<16), strings.Repeat("y", 1<<16+1)} {
			expectCorrupt(t, "bytes behind", s+behind)
			expectCorrupt(t, "bytes ahead", behind+s)
		}
	}
}

// P14.2: IDs at the edges, with a CRC that is right.
func TestHeadIDs(t *testing.T) {
	for id, want := range map[uint32]api.Errno{0: api.ErrCorrupt, 1: api.OK, 1 << 31: api.OK, 1<<32 - 2: api.OK, 1<<32 - 1: api.ErrCorrupt} {
		for _, l := range someBoxes() {
			s := headBytesByWords(headOf(id, l...)) + strings.Join(l, "")
			h, e := Head(s)
			expectErr(t, fmt.Sprint("ID ", id), e, want)
			if want == api.OK && h.ID != id || want != api.OK && !sameByWords(h, api.Head{}) {
				t.Errorf("ID %d: %s", id, told(h))
			}
			expectBytes(t, fmt.Sprint("ID ", id), s)
		}
	}
}

// P14.2: numbers of chunks of all kinds, with the slots of a box, with as many slots as they say, and with other ones; the
// CRC is right.
func TestHeadNumbers(t *testing.T) {
	for _, l := range someBoxes() {
		h := headOf(3, l...)
		body := strings.Join(l, "")
		for _, n := range []int{0, 1, 2, 3, len(l) - 1, len(l) + 1, 255, 256, 257, 258, 512, 1 << 8, 1 << 15, 65535 - len(l), 65534, 65535} {
			what := fmt.Sprintf("%d as the number of chunks of %s", n, listed(l))
			if n != len(l) {
				expectCorrupt(t, what, numberedHead(h, n)+body)
			}
			expectBytes(t, what, numberedHead(h, n)+body)
			expectBytes(t, what+", all of it sealed", sealed(numberedHead(h, n)+body))
		}
	}
	for _, n := range []int{0, 1, 2, 255, 256, 257, 258, 300, 512, 513, 1 << 12, 65534, 65535} {
		for _, length := range []int{0, 1, 2, 255} {
			l := times(n, length)
			s := headBytesByWords(headOf(3, l...)) + strings.Join(l, "")
			what := fmt.Sprintf("%d chunks of %d", n, length)
			if ok := expectBytes(t, what, s); ok != (n >= 1 && n <= 256 && length > 0) {
				t.Errorf("%s: a correct head, %v", what, ok)
			}
		}
	}
	expectCorrupt(t, "no chunk", sealed("SBOX\x01\x00\x00\x00\x00\x00"))
	expectCorrupt(t, "no chunk, but bytes", sealed("SBOX\x01\x00\x00\x00\x00\x00")+"abc")
	expectCorrupt(t, "no chunk, but a slot", sealed("SBOX\x01\x00\x00\x00\x00\x00\x01\x00aaaa")+"a")
}

// P14.2: lengths of all kinds in each slot, with as many bytes as they say, and with those of the box; the CRC is right.
func TestHeadLengths(t *testing.T) {
	for _, l := range someBoxes()[:4] {
		for at := range l {
			for _, n := range []int{0, 1, 2, len(l[at]) - 1, len(l[at]) + 1, 255, 256, 257, 4095, 4096, 4097, 4098, 8192, 1 << 15, 65535} {
				h := headOf(3, l...)
				h.Slots[at].Len = n
				what := fmt.Sprintf("%d as the length in slot %d of %s", n, at, listed(l))
				s := headBytesByWords(h)
				if n != len(l[at]) {
					expectCorrupt(t, what, s+strings.Join(l, ""))
				}
				changed := slices.Clone(l)
				changed[at] = text(4, n)
				if ok := expectBytes(t, what, s+strings.Join(changed, "")); ok != (n >= 1 && n <= 4096) {
					t.Errorf("%s: a correct head, %v", what, ok)
				}
			}
		}
	}
	for _, c := range []struct {
		l  []string
		ok bool
	}{{times(16, 4096), true}, {append(times(16, 4096), "z"), false}, {times(17, 4096), false}, {times(256, 256), true}, {append(times(255, 256), text(1, 257)), false}, {times(256, 4096), false}, {times(256, 0), false}} {
		s := headBytesByWords(headOf(3, c.l...)) + strings.Join(c.l, "")
		if ok := expectBytes(t, listed(c.l), s); ok != c.ok {
			t.Errorf("%s: a correct head, %v", listed(c.l), ok)
		}
	}
}

// P14.2: two slots whose lengths are exchanged, or moved, so that the box has the same bytes; the CRC is right.
func TestHeadMoved(t *testing.T) {
	l := texts(5, 1, 300, 2)
	for a := range l {
		for b := range l {
			h := headOf(3, l...)
			h.Slots[a].Len, h.Slots[b].Len = h.Slots[b].Len, h.Slots[a].Len
			expectBytes(t, "exchanged", headBytesByWords(h)+strings.Join(l, ""))
			h = headOf(3, l...)
			h.Slots[a], h.Slots[b] = h.Slots[b], h.Slots[a]
			expectBytes(t, "slots exchanged", headBytesByWords(h)+strings.Join(l, ""))
			h = headOf(3, l...)
			h.Slots[a].Len--
			h.Slots[b].Len++
			expectBytes(t, "a byte moved", headBytesByWords(h)+strings.Join(l, ""))
		}
	}
}

// P14.2, P14.3: a head is correct whatever the chunks' bytes are: the chunks are not.
func TestHeadAlone(t *testing.T) {
	for _, l := range someBoxes() {
		s := built(t, 21, l...)
		end := 14 + 6*len(l)
		for _, body := range []string{strings.Repeat("\x00", len(s)-end), strings.Repeat("\xff", len(s)-end), text(77, len(s)-end), strings.Repeat("SBOX", len(s))[:len(s)-end]} {
			h, e := Head(s[:end] + body)
			if !sameByWords(h, headOf(21, l...)) || e != api.OK {
				t.Errorf("%s with other bytes: %s, %d", listed(l), told(h), e)
			}
			expectBytes(t, "other bytes", s[:end]+body)
		}
	}
}

// P14.2, P14.3: parts of two boxes, laid one behind the other.
func TestHeadMixed(t *testing.T) {
	a, b := built(t, 1, "abc", "de"), built(t, 2, "abd", "xy")
	for at := range a {
		expectBytes(t, "mixed", a[:at]+b[at:])
		expectBytes(t, "mixed", b[:at]+a[at:])
		for end := at; end < len(a); end++ {
			expectBytes(t, "mixed", a[:at]+b[at:end]+a[end:])
		}
	}
}

// wrongLens returns lengths of slots that no box has, with such as come round to those of a box where sums have bounds.
func wrongLens() [][]int {
	l := [][]int{nil, {}, {0}, {-1}, {4097}, {4098}, {65536}, {1 << 16, 1}, {math.MinInt}, {math.MaxInt}, {math.MinInt + 1}, {math.MaxInt - 1}, {1 << 32}, {1<<32 + 1}, {-4096}, {1 << 31}, {1<<16 + 1}}
	l = append(l, slices.Repeat([]int{4096}, 17), append(slices.Repeat([]int{4096}, 16), 1), slices.Repeat([]int{1}, 257), slices.Repeat([]int{1}, 1<<16+1), slices.Repeat([]int{257}, 256), slices.Repeat([]int{0}, 256), slices.Repeat([]int{0}, 300))
	l = append(l, []int{math.MaxInt, math.MaxInt, 3}, []int{math.MaxInt, math.MaxInt, math.MaxInt}, []int{math.MinInt, math.MinInt}, []int{math.MinInt, math.MinInt, 5}, []int{math.MaxInt, math.MinInt, 2}, []int{5000, -4000}, []int{-1, 2}, []int{1 << 62, 1 << 62, 1 << 62, 1 << 62}, []int{1 << 62, 1 << 62, 1 << 62, 1 << 62, 7}, slices.Repeat([]int{math.MaxInt}, 256), slices.Repeat([]int{math.MinInt}, 256), slices.Repeat([]int{1 << 56}, 256))
	for _, n := range []int{0, -1, 4097, math.MinInt, math.MaxInt} {
		for at := range 3 {
			l = append(l, slices.Insert([]int{5, 6}, at, n))
		}
		l = append(l, append(slices.Repeat([]int{10}, 255), n), append([]int{n}, slices.Repeat([]int{10}, 255)...))
	}
	return l
}

func headOfLens(id uint32, lens []int) api.Head {
	h := api.Head{ID: id}
	for i, n := range lens {
		h.Slots = append(h.Slots, api.Slot{Len: n, Crc: uint32(i) * 0x9e3779b1})
	}
	return h
}

// P14.2: Size and Where of heads that no box has: with ErrArg, whatever the slot is.
func TestSizeWrong(t *testing.T) {
	for _, lens := range wrongLens() {
		for _, id := range []uint32{0, 1, mostID, mostID + 1} {
			h := headOfLens(id, lens)
			expectHead(t, "wrong lengths", h)
			if n := Size(h); n != 0 {
				t.Errorf("%s: Size %d", told(h), n)
			}
			for _, slot := range edges() {
				if at, n, e := Where(h, slot); at != 0 || n != 0 || e != api.ErrArg {
					t.Errorf("%s: Where of slot %d: %d %d %d", told(h), slot, at, n, e)
				}
			}
		}
	}
	for _, l := range someBoxes() {
		for _, id := range []uint32{0, mostID + 1} {
			h := headOf(id, l...)
			expectHead(t, "a wrong ID", h)
			if at, n, e := Where(h, 0); Size(h) != 0 || at != 0 || n != 0 || e != api.ErrArg {
				t.Errorf("ID %d: Size %d, Where %d %d %d", id, Size(h), at, n, e)
			}
		}
	}
	expectHead(t, "nothing", api.Head{})
}

// P14.2: Size and Where of heads of boxes, against the boxes; each slot, and those that there are not.
func TestWhere(t *testing.T) {
	for _, l := range someBoxes() {
		for _, id := range []uint32{1, 1000, mostID} {
			s := built(t, id, l...)
			h := headOf(id, l...)
			expectHead(t, "a box", h)
			if n := Size(h); n != len(s) {
				t.Errorf("%s: Size %d of %d bytes", listed(l), n, len(s))
			}
			for i, c := range l {
				if at, n, e := Where(h, i); e != api.OK || n != len(c) || at < 0 || at > len(s)-n || s[at:at+n] != c {
					t.Errorf("%s: Where of slot %d: %d %d %d", listed(l), i, at, n, e)
				}
			}
			for _, slot := range edges() {
				if slot >= 0 && slot < len(l) {
					continue
				}
				if at, n, e := Where(h, slot); at != 0 || n != 0 || e != api.ErrRange {
					t.Errorf("%s: Where of slot %d: %d %d %d", listed(l), slot, at, n, e)
				}
			}
		}
	}
	// Whether a box has such a head does not depend on the CRCs.
	expectHead(t, "other CRCs", headOfLens(4, []int{4096, 1, 5}))
	expectHead(t, "no CRCs", api.Head{ID: 4, Slots: []api.Slot{{Len: 3}, {Len: 4}}})
}

// P14.2: Where and Size of any heads.
func TestWhereAny(t *testing.T) {
	next := anyNumbers(5)
	for range 2000 {
		var lens []int
		for range next(1 + next(300)) {
			lens = append(lens, 1+next(1+next(500)))
		}
		if len(lens) > 0 && next(3) == 0 {
			lens[next(len(lens))] = []int{0, -1, 4096, 4097, math.MaxInt}[next(5)]
		}
		expectHead(t, "any", headOfLens(uint32(next(1<<24)), lens))
	}
}

// heads returns heads that differ in one thing alone from the first one, or from another one, and some with the same.
func heads() []api.Head {
	a, b, c := api.Slot{Len: 3, Crc: 7}, api.Slot{Len: 4, Crc: 7}, api.Slot{Len: 3, Crc: 8}
	l := []api.Head{{}, {Slots: []api.Slot{}}, {ID: 1}, {ID: 1, Slots: []api.Slot{}}, {ID: mostID + 1}}
	for _, slots := range [][]api.Slot{{a}, {b}, {c}, {{}}, {{}, {}}, {a, a}, {a, b}, {b, a}, {a, c}, {c, a}, {a, b, c}, {c, b, a}, {a, c, b}, {a, b, b}, {a, b, a}, {a, b, {}}, {{}, a, b}, {{Len: -3, Crc: 7}}, {{Len: math.MinInt}}, {{Len: math.MaxInt}}, {{Len: 3 + 1<<32, Crc: 7}}, {{Len: 7, Crc: 3}}, {{Len: 3, Crc: math.MaxUint32}}} {
		for _, id := range []uint32{0, 1, 2, 1 << 31, mostID, mostID + 1} {
			l = append(l, api.Head{ID: id, Slots: slots})
		}
	}
	long := headOfLens(1, slices.Repeat([]int{2}, 300))
	for _, at := range []int{0, 1, 255, 256, 299} {
		other := api.Head{ID: 1, Slots: slices.Clone(long.Slots)}
		other.Slots[at].Crc ^= 1 << 31
		another := api.Head{ID: 1, Slots: slices.Clone(long.Slots)}
		another.Slots[at].Len++
		l = append(l, other, another, api.Head{ID: 1, Slots: long.Slots[:at]})
	}
	return append(l, long)
}

// P14.2: Same of all pairs of heads.
func TestSame(t *testing.T) {
	all := heads()
	for i, a := range all {
		for k, b := range all {
			want := sameByWords(a, b)
			keptHead(t, "Same", a, func(x api.Head) {
				keptHead(t, "Same", b, func(y api.Head) {
					if got := Same(x, y); got != want {
						t.Errorf("Same of %d and %d: %v: %s; %s", i, k, got, told(a), told(b))
					}
				})
			})
		}
	}
	one, other := headOf(1, "a", "b"), headOf(1, "b", "a")
	if Same(one, other) || !Same(one, headOf(1, "a", "b")) || Same(one, headOf(2, "a", "b")) || Same(one, headOf(1, "a")) || !Same(api.Head{}, api.Head{Slots: []api.Slot{}}) {
		t.Error("Same of ordinary heads")
	}
}

func FuzzHead(f *testing.F) {
	f.Add("", uint32(0), 0)
	for i, l := range someBoxes()[:4] {
		s, _ := buildByWords(300, l)
		f.Add(s, uint32(1)<<i, 5*i)
		f.Add(s[10:], uint32(7), len(l))
	}
	f.Fuzz(func(t *testing.T, s string, bits uint32, at int) {
		expectBytes(t, "fuzz", s)
		end := len(s)
		if at >= 0 && at < len(s) {
			end = at
		}
		expectBytes(t, "fuzz, turned", turned(s, end, bits))
		expectBytes(t, "fuzz, sealed", sealed(s[:end])+s[end:])
		expectBytes(t, "fuzz, sealed, with a mark", sealed("SBOX\x07\x00\x00\x00"+s[:end])+s[end:])
		expectChunk(t, "fuzz", s, at)
		expectHead(t, "fuzz", headOfLens(bits, []int{len(s), at, 1}))
		if h, e := headByWords(s); e == api.OK {
			expectHead(t, "fuzz", h)
		}
	})
}
