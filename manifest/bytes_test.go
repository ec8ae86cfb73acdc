package manifest

import (
	"fmt"
	"math"
	"slices"
	"strings"
	"testing"

	"sheaf/api"
	"sheaf/crc"
	"sheaf/pack"
)

// someManifests returns manifests that are valid: with little, with all bytes of their numbers, and at the edges.
func someManifests() []api.Manifest {
	x := api.Entry{Fp: printOf(8), Len: 0x0102, Box: 0x06050403, Slot: 0x07}
	most := api.Entry{Fp: printOf(9), Len: mostLen, Box: mostID, Slot: mostSlot}
	return []api.Manifest{
		{ID: 1, Entries: []api.Entry{{Len: 1, Box: 1}}}, {ID: 0x0d0c0b0a, Entries: []api.Entry{x, most, x}}, listOf(mostID, 2), listOf(77, 5), listOf(2, 256),
	}
}

// cutSealed returns the bytes of a manifest without their CRC.
func cutSealed(s string) string { return s[:len(s)-4] }

// changedByte returns a text with another byte at an index.
func changedByte(s string, at int, c byte) string { return s[:at] + string([]byte{c}) + s[at+1:] }

// P15.2: a manifest, byte by byte.
func TestPutKnown(t *testing.T) {
	f, g := printOf(1), printOf(2)
	m := api.Manifest{ID: 0x04030201, Entries: []api.Entry{{Fp: f, Len: 0x0506, Box: 0x0a090807, Slot: 0x0b}, {Fp: g, Len: 4096, Box: mostID, Slot: 255}}}
	want := "MANI\x01\x02\x03\x04\x02\x00" + string(f[:]) + "\x06\x05\x07\x08\x09\x0a\x0b\x00" + string(g[:]) + "\x00\x10\xfe\xff\xff\xff\xff\x00"
	want += pack.U32(crc.Sum(want))
	if s, e := Put(m); s != want || e != api.OK {
		t.Errorf("%q %d, not %q", s, e, want)
	}
	if got, e := Get(want); !sameByWords(got, m) || e != api.OK {
		t.Errorf("%s, %d", told(got), e)
	}
	if s, e := Put(listOf(1, 256)); e != api.OK || s[8:10] != "\x00\x01" || len(s) != 10254 {
		t.Errorf("256 entries: %d bytes, %d", len(s), e)
	}
	if s, e := Put(api.Manifest{ID: 1, Entries: []api.Entry{{Len: 1, Box: 1}}}); len(s) != 54 || e != api.OK {
		t.Errorf("1 entry: %d bytes, %d", len(s), e)
	}
}

// P15.2: no bytes, few, and manifests cut at each place, also with a CRC that is right then.
func TestGetCut(t *testing.T) {
	for i, m := range someManifests() {
		s := bytesOf(m)
		for n := range s {
			if i < 4 || n < 120 || n > len(s)-60 || n%97 == 0 {
				expectCorrupt(t, "cut", s[:n])
				if n != len(s)-4 {
					expectCorrupt(t, "cut and sealed", sealed(s[:n]))
				}
				expectCorrupt(t, "cut and filled", s[:n]+strings.Repeat("\x00", len(s)-n-1)+"~")
				expectCorrupt(t, "from behind", s[len(s)-n:])
				expectCorrupt(t, "from behind, sealed", sealed(s[len(s)-n:]))
			}
		}
		expectGet(t, "whole", s)
		expectGet(t, "sealed again", sealed(cutSealed(s)))
	}
	for n := range 120 {
		for _, c := range []string{"\x00", "\xff", "M", "MANI", "MANI\x01\x00\x00\x00\x01\x00", "\x01\x00"} {
			expectCorrupt(t, "one thing", strings.Repeat(c, n))
			expectCorrupt(t, "one thing, sealed", sealed(strings.Repeat(c, n)))
		}
	}
}

// P15.2: each bit turned, and each byte with each other value, also with a CRC that is right then.
func TestGetBytes(t *testing.T) {
	for _, m := range someManifests()[:3] {
		s := bytesOf(m)
		for at := range s {
			for bit := range 8 {
				expectCorrupt(t, fmt.Sprintf("bit %d of byte %d", bit, at), changedByte(s, at, s[at]^1<<bit))
			}
			for by := range 255 {
				what := fmt.Sprintf("byte %d changed by %d", at, by+1)
				other := changedByte(s, at, s[at]^byte(by+1))
				if _, e := Get(other); e != api.ErrCorrupt {
					t.Errorf("%s: %d", what, e)
				}
				if at < len(s)-4 {
					expectGet(t, what+", right CRC", sealed(cutSealed(other)))
				}
			}
		}
	}
	long := bytesOf(listOf(5, 256))
	for at := range long {
		other := changedByte(long, at, long[at]^1<<(at%8))
		if m, e := Get(other); e != api.ErrCorrupt || len(m.Entries) != 0 {
			t.Errorf("byte %d of a long one: %d", at, e)
		}
		if at%13 == 0 && at < len(long)-4 {
			expectGet(t, "a long one, right CRC", sealed(cutSealed(other)))
		}
	}
}

// P15.2: bytes behind a manifest, and ahead of it, also with a CRC that is right for all.
func TestGetLonger(t *testing.T) {
	for _, m := range someManifests() {
		s := bytesOf(m)
		for _, more := range []string{"\x00", "x", strings.Repeat("\x00", 40), strings.Repeat("\x00", 44), s[10:50], s[:10], s, strings.Repeat("y", 1<<17), sealed(s)} {
			for what, other := range map[string]string{
				"behind": s + more, "behind, sealed": sealed(s + more), "ahead of the CRC": sealed(cutSealed(s) + more), "ahead": more + s, "ahead, sealed": sealed(more + cutSealed(s)), "in between": sealed(s[:10] + more + cutSealed(s)[10:]),
			} {
				expectCorrupt(t, what, other)
			}
		}
		expectCorrupt(t, "sealed twice", sealed(s))
	}
}

// P15.2: other bytes than MANI; the CRC is right.
func TestGetMark(t *testing.T) {
	for _, m := range someManifests() {
		body := cutSealed(bytesOf(m))[4:]
		for _, mark := range []string{"", "M", "MAN", "mani", "MANJ", "NANI", "INAM", "SBOX", "RECI", "\x00\x00\x00\x00", "\xcdANI", " MANI", "MANI ", "MANIMANI"} {
			expectCorrupt(t, "mark "+mark, sealed(mark+body))
		}
		expectGet(t, "the mark", sealed("MANI"+body))
	}
}

// P15.2: IDs at the edges; the CRC is right.
func TestGetIDs(t *testing.T) {
	for _, id := range edgeIDs() {
		for _, m := range someManifests() {
			m.ID = id
			what := fmt.Sprint("ID ", id)
			if id == 0 || id == 1<<32-1 {
				expectCorrupt(t, what, bytesOf(m))
				continue
			}
			if got, e := Get(bytesOf(m)); !sameByWords(got, m) || e != api.OK {
				t.Errorf("%s: %s, %d", what, told(got), e)
			}
		}
	}
}

// P15.2: numbers of entries that are 0, too great or too small, with other entries, and with as many as they say; the CRC
// is right, and is not.
func TestGetNumbers(t *testing.T) {
	for _, m := range someManifests() {
		k := len(m.Entries)
		for _, n := range []int{0, 1, 2, 3, k - 1, k + 1, 2 * k, k + 256, 128, 254, 255, 256, 257, 258, 512, 513, 1 << 12, 1 << 15, 65535 - k, 65534, 65535} {
			what := fmt.Sprintf("%d as the number of %d entries", n, k)
			s := numbered(m, n)
			expectGet(t, what, s)
			if n != k {
				expectCorrupt(t, what, s)
				whole := bytesOf(m)
				expectCorrupt(t, what+", another CRC", whole[:8]+string([]byte{byte(n), byte(n >> 8)})+whole[10:])
			}
		}
	}
	for _, n := range edgeNumbers() {
		for _, x := range []api.Entry{{}, entry(3), {Len: 1, Box: 1}} {
			m := api.Manifest{ID: 3, Entries: slices.Repeat([]api.Entry{x}, n)}
			what := fmt.Sprintf("%d entries", n)
			expectGet(t, what, bytesOf(m))
			if x.Len == 0 || n < 1 || n > 256 {
				expectCorrupt(t, what, bytesOf(m))
			} else if got, e := Get(bytesOf(m)); !sameByWords(got, m) || e != api.OK {
				t.Errorf("%s: %s, %d", what, told(got), e)
			}
		}
	}
	expectCorrupt(t, "none", sealed("MANI\x01\x00\x00\x00\x00\x00"))
	expectCorrupt(t, "none, but bytes", sealed("MANI\x01\x00\x00\x00\x00\x00"+strings.Repeat("\x01", 40)))
	expectCorrupt(t, "the greatest number, and no entry", sealed("MANI\x01\x00\x00\x00\xff\xff"))
	expectCorrupt(t, "no number", sealed("MANI\x01\x00\x00\x00"))
}

// P15.2: a field of an entry out of its bounds, first, last and amid others; the CRC is right, and is not.
func TestGetFields(t *testing.T) {
	for _, m := range someManifests() {
		s := bytesOf(m)
		expect := func(what string, at int, x api.Entry) {
			t.Helper()
			other := bytesOf(with(m, at, x))
			if ok := len(expectGet(t, what, other).Entries) > 0; ok != validEntryByWords(x) {
				t.Errorf("%s: a manifest by the words, %v", what, ok)
			}
			if !validEntryByWords(x) {
				expectCorrupt(t, what, other)
				expectCorrupt(t, what+", another CRC", cutSealed(other)+s[len(s)-4:])
			}
		}
		for _, at := range []int{0, 1, 2, 100, len(m.Entries) - 1} {
			if at >= len(m.Entries) {
				continue
			}
			for _, n := range []int{0, 1, 2, 255, 256, 257, 4095, 4096, 4097, 4098, 8192, 1 << 15, 65534, 65535} {
				x := m.Entries[at]
				x.Len = n
				expect(fmt.Sprint("Len ", n), at, x)
				x = m.Entries[at]
				x.Slot = n
				expect(fmt.Sprint("Slot ", n), at, x)
			}
			for _, box := range edgeIDs() {
				x := m.Entries[at]
				x.Box = box
				expect(fmt.Sprint("Box ", box), at, x)
			}
		}
	}
}

// P15.2: parts of two manifests, laid one behind the other, also with a CRC that is right.
func TestGetMixed(t *testing.T) {
	a, b := bytesOf(listOf(1, 2)), bytesOf(api.Manifest{ID: 2, Entries: []api.Entry{entry(7), entry(1)}})
	for at := range a {
		expectGet(t, "mixed", a[:at]+b[at:])
		expectGet(t, "mixed", b[:at]+a[at:])
		expectGet(t, "mixed and sealed", sealed((a[:at] + b[at:])[:len(a)-4]))
		expectGet(t, "moved", a[at:]+a[:at])
		for end := at; end < len(a); end += 3 {
			expectGet(t, "mixed", a[:at]+b[at:end]+a[end:])
		}
	}
	s := bytesOf(listOf(6, 4))
	expectGet(t, "entries exchanged", s[:10]+s[50:90]+s[10:50]+s[90:])
	if m := expectGet(t, "entries exchanged, right CRC", sealed(s[:10]+s[50:90]+s[10:50]+s[90:170])); len(m.Entries) != 4 {
		t.Errorf("entries exchanged: %s", told(m))
	}
}

// P15.5: Get of Put is the manifest, and Put of Get the bytes.
func TestRoundTrip(t *testing.T) {
	next := anyNumbers(5)
	for _, m := range append(someManifests(), anyManifest(next), anyManifest(next), anyManifest(next)) {
		s, e := Put(m)
		got, getE := Get(s)
		again, againE := Put(got)
		if e != api.OK || getE != api.OK || againE != api.OK || !sameByWords(got, m) || !Same(got, m) || again != s {
			t.Errorf("%s: %d; %s, %d; %d", told(m), e, told(got), getE, againE)
		}
		if got.ID = 5; len(got.Entries) > 0 {
			got.Entries[0].Len = -7
		}
		if again, e := Get(s); !sameByWords(again, m) || e != api.OK {
			t.Errorf("%s: Get once more: %s, %d", told(m), told(again), e)
		}
	}
}

// P15.1, P15.2: lists that are beyond any manifest.
func TestPutMany(t *testing.T) {
	for _, n := range []int{1 << 16, 1<<16 + 1, 1<<16 + 256, 1 << 18} {
		for _, x := range []api.Entry{{}, entry(1)} {
			m := api.Manifest{ID: 1, Entries: slices.Repeat([]api.Entry{x}, n)}
			expectErr(t, "Check", Check(m), api.ErrArg)
			if s, e := Put(m); s != "" || e != api.ErrArg {
				t.Errorf("Put: %d bytes, %d", len(s), e)
			}
			expectCorrupt(t, "many", bytesOf(m))
		}
	}
}

func FuzzGet(f *testing.F) {
	f.Add("", 0, byte(1))
	for i, m := range someManifests()[:4] {
		s := bytesOf(m)
		f.Add(s, 5*i, byte(i))
		f.Add(s[10:len(s)-4], 1, byte(200))
	}
	f.Fuzz(func(t *testing.T, s string, at int, c byte) {
		expectGet(t, "fuzz", s)
		expectGet(t, "fuzz, sealed", sealed(s))
		if len(s) > 4 {
			expectGet(t, "fuzz, sealed again", sealed(cutSealed(s)))
		}
		if at >= 0 && at < len(s) {
			expectGet(t, "fuzz, changed", changedByte(s, at, c))
			expectGet(t, "fuzz, changed and sealed", sealed(changedByte(s, at, c)))
			expectGet(t, "fuzz, cut", sealed(s[:at]))
		}
		n := len(s) / 40
		head := string([]byte{c, 0, 0, 1, byte(n), byte(n >> 8)})
		expectGet(t, "fuzz, with a mark", sealed("MANI"+head+s[:40*n]))
		expectGet(t, "fuzz, with a mark, and more", sealed("MANI"+head+s))
	})
}

func FuzzPut(f *testing.F) {
	f.Add(uint32(1), "", 1, uint32(1), 0, uint16(1))
	f.Add(uint32(mostID), "fingerprint", 4096, uint32(mostID), 255, uint16(256))
	f.Add(uint32(0), "", math.MaxInt, uint32(0), math.MinInt, uint16(257))
	f.Fuzz(func(t *testing.T, id uint32, print string, n int, box uint32, slot int, many uint16) {
		x := api.Entry{Len: n, Box: box, Slot: slot}
		copy(x.Fp[:], print)
		m := listOf(id, int(many)%300)
		expectPut(t, "fuzz", m)
		m.Entries = slices.Insert(m.Entries, int(many)%(len(m.Entries)+1), x)
		expectPut(t, "fuzz", m)
		expectAny(t, "fuzz", m)
		m.Entries = append(m.Entries, x)
		expectAny(t, "fuzz", m)
		expectGet(t, "fuzz", bytesOf(m))
	})
}
