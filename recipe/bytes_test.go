package recipe

import (
	"fmt"
	"math"
	"slices"
	"strings"
	"testing"

	"sheaf/api"
	"sheaf/crc"
	"sheaf/pack"
)

// someRecipes returns recipes that are valid: with little, with all bytes of their numbers, and at the edges.
func someRecipes() []api.Recipe {
	return []api.Recipe{
		{Name: "a"},
		{Name: "some\x00na\xffme", Size: 0x0f0e0d, Re: 0x04030201, Im: -0x08070605, Mans: []uint32{0x0d0c0b0a, 1, mostID}},
		{Name: strings.Repeat("n", 48), Size: mostSize, Re: -1 << 31, Im: 1<<31 - 1, Mans: []uint32{1 << 31, 1 << 31}},
		{Name: "RECP", Size: 1, Re: 1<<31 - 1, Im: -1 << 31},
		listOf(5), listOf(1024),
	}
}

// changedByte returns a text with another byte at an index.
func changedByte(s string, at int, c byte) string { return s[:at] + string([]byte{c}) + s[at+1:] }

// P16.2: a recipe, byte by byte.
func TestPutKnown(t *testing.T) {
	r := api.Recipe{Name: "a\xfe\x00", Size: 0x0c0b0a, Re: -2, Im: 0x7f020304, Mans: []uint32{0x04030201, mostID}}
	want := "RECP\x0a\x0b\x0c\x00\xfe\xff\xff\xff\x04\x03\x02\x7f\x03\x00\x00\x00a\xfe\x00\x02\x00\x01\x02\x03\x04\xfe\xff\xff\xff"
	want += pack.U32(crc.Sum(want))
	if s, e := Put(r); s != want || e != api.OK {
		t.Errorf("%q %d, not %q", s, e, want)
	}
	if got, e := Get(want); !sameByWords(got, r) || e != api.OK {
		t.Errorf("%s, %d", told(got), e)
	}
	r = api.Recipe{Name: "b", Re: -1 << 31, Im: 1<<31 - 1}
	want = crc.Seal("RECP\x00\x00\x00\x00\x00\x00\x00\x80\xff\xff\xff\x7f\x01\x00\x00\x00b\x00\x00")
	if s, e := Put(r); s != want || e != api.OK {
		t.Errorf("%q %d, not %q", s, e, want)
	}
	if got, e := Get(want); !sameByWords(got, r) || e != api.OK {
		t.Errorf("%s, %d", told(got), e)
	}
	if s, e := Put(listOf(1024)); e != api.OK || s[24:26] != "\x00\x04" || len(s) != 26+4096+4 {
		t.Errorf("1024 manifests: %d bytes, %d", len(s), e)
	}
}

// P16.2: no bytes, few, and recipes cut at each place, also with a CRC that is right then.
func TestGetCut(t *testing.T) {
	for i, r := range someRecipes() {
		s := bytesOf(r)
		for n := range s {
			if i < 5 || n < 60 || n > len(s)-30 || n%41 == 0 {
				expectCorrupt(t, "cut", s[:n])
				if n != len(s)-4 {
					expectCorrupt(t, "cut and sealed", sealed(s[:n]))
				}
				expectCorrupt(t, "cut and filled", s[:n]+strings.Repeat("\x00", len(s)-n-1)+"~")
				expectGet(t, "cut, filled and sealed", sealed(s[:n]+strings.Repeat("\x01", max(0, len(s)-n-4))))
				expectCorrupt(t, "from behind", s[len(s)-n:])
				expectCorrupt(t, "from behind, sealed", sealed(s[len(s)-n:]))
			}
		}
		expectGet(t, "whole", s)
		expectGet(t, "sealed again", sealed(cutSealed(s)))
	}
	for n := range 120 {
		for _, c := range []string{"\x00", "\xff", "R", "RECP", "RECP\x00\x00\x00\x00\x00\x00\x00\x00\x00\x00\x00\x00\x01\x00\x00\x00", "\x01\x00"} {
			expectCorrupt(t, "one thing", strings.Repeat(c, n))
			expectCorrupt(t, "one thing, sealed", sealed(strings.Repeat(c, n)))
		}
	}
}

// P16.2: each bit turned, and each byte with each other value, also with a CRC that is right then.
func TestGetBytes(t *testing.T) {
	for _, r := range someRecipes()[:5] {
		s := bytesOf(r)
		for at := range s {
			for bit := range 8 {
				expectCorrupt(t, fmt.Sprintf("bit %d of byte %d", bit, at), changedByte(s, at, s[at]^1<<bit))
			}
			for by := range 255 {
				what := fmt.Sprintf("byte %d changed by %d", at, by+1)
				other := changedByte(s, at, s[at]^byte(by+1))
				if r, e := Get(other); e != api.ErrCorrupt || !nothing(r) {
					t.Errorf("%s: %d", what, e)
				}
				if at < len(s)-4 {
					expectGet(t, what+", right CRC", sealed(cutSealed(other)))
				}
			}
		}
	}
	long := bytesOf(listOf(1024))
	for at := range long {
		other := changedByte(long, at, long[at]^1<<(at%8))
		if r, e := Get(other); e != api.ErrCorrupt || !nothing(r) {
			t.Errorf("byte %d of a long one: %d", at, e)
		}
		if at%13 == 0 && at < len(long)-4 {
			expectGet(t, "a long one, right CRC", sealed(cutSealed(other)))
		}
	}
}

// P16.2: bytes behind a recipe, ahead of it, and in between, also with a CRC that is right for all.
func TestGetLonger(t *testing.T) {
	for _, r := range someRecipes() {
		s := bytesOf(r)
		for _, more := range []string{"\x00", "x", "\x00\x00\x00\x00", "\x01\x00\x00\x00", s[:20], s, strings.Repeat("y", 1<<17), sealed(s)} {
			for what, other := range map[string]string{
				"behind": s + more, "behind, sealed": sealed(s + more), "ahead of the CRC": sealed(cutSealed(s) + more), "ahead": more + s, "ahead, sealed": sealed(more + cutSealed(s)), "in between": sealed(s[:16] + more + cutSealed(s)[16:]),
			} {
				expectCorrupt(t, what, other)
			}
		}
		expectCorrupt(t, "sealed twice", sealed(s))
	}
}

// P16.2: other bytes than RECP; the CRC is right.
func TestGetMark(t *testing.T) {
	for _, r := range someRecipes() {
		body := cutSealed(bytesOf(r))[4:]
		for _, mark := range []string{"", "R", "REC", "recp", "RECQ", "SECP", "PCER", "MANI", "SBOX", "\x00\x00\x00\x00", "\xd2ECP", " RECP", "RECP ", "RECPRECP"} {
			expectCorrupt(t, "mark "+mark, sealed(mark+body))
		}
		expectGet(t, "the mark", sealed("RECP"+body))
	}
}

// wrongLengths returns numbers that are not the right one: near it, at the edges of numbers, and up to the greatest.
func wrongLengths(right, bits int) []int {
	var l []int
	for _, n := range []int{0, 1, 2, 3, 4, right - 8, right - 4, right - 3, right - 2, right - 1, right + 1, right + 2, right + 3, right + 4, right + 6, right + 8, 2 * right, 47, 48, 49, 128, 255, 256, 257, 1023, 1024, 1025, 1<<bits - right} {
		l = append(l, n)
	}
	for i := range bits {
		l = append(l, 1<<i-1, 1<<i, 1<<i+1, 1<<i+right, 1<<bits-1-1<<i)
	}
	l = append(l, 1<<bits-2, 1<<bits-1)
	return slices.DeleteFunc(l, func(n int) bool { return n == right || n < 0 || n > 1<<bits-1 })
}

// P16.2: lengths of a name that are 0, too great or too small, up to the greatest; the CRC is right, and is not.
func TestGetNameLengths(t *testing.T) {
	for _, r := range someRecipes() {
		whole := bytesOf(r)
		for _, n := range wrongLengths(len(r.Name), 32) {
			what := fmt.Sprintf("%d as the length of %d bytes", n, len(r.Name))
			s := numbered(r, uint32(n), uint16(len(r.Mans)))
			expectCorrupt(t, what, s)
			expectCorrupt(t, what+", another CRC", cutSealed(s)+whole[len(whole)-4:])
			if n < 1<<17 {
				// There are as many bytes as are read for it.
				expectCorrupt(t, what+", and more", sealed(cutSealed(s)+strings.Repeat("\x00", n)))
			}
		}
	}
	for _, name := range edgeNames() {
		r := api.Recipe{Name: name, Size: 2, Mans: []uint32{3}}
		s := bytesOf(r)
		if len(name) < 1 || len(name) > 48 {
			expectCorrupt(t, fmt.Sprintf("a name of %d bytes", len(name)), s)
			expectCorrupt(t, "another CRC", cutSealed(s)+"\x00\x00\x00\x00")
		} else if got, e := Get(s); !sameByWords(got, r) || e != api.OK {
			t.Errorf("%q: %s, %d", name, told(got), e)
		}
	}
}

// P16.2: numbers of manifests that are 0, too great or too small, up to the greatest; the CRC is right, and is not.
func TestGetNumbers(t *testing.T) {
	for _, r := range someRecipes() {
		whole := bytesOf(r)
		for _, n := range wrongLengths(len(r.Mans), 16) {
			what := fmt.Sprintf("%d as the number of %d manifests", n, len(r.Mans))
			s := numbered(r, uint32(len(r.Name)), uint16(n))
			expectCorrupt(t, what, s)
			expectCorrupt(t, what+", another CRC", cutSealed(s)+whole[len(whole)-4:])
		}
	}
	for _, n := range edgeNumbers() {
		for _, id := range []uint32{0, 1, mostID} {
			r := api.Recipe{Name: "a", Mans: slices.Repeat([]uint32{id}, n)}
			what := fmt.Sprintf("%d manifests %d", n, id)
			if n > 1024 || id == 0 && n > 0 {
				expectCorrupt(t, what, bytesOf(r))
			} else if got, e := Get(bytesOf(r)); !sameByWords(got, r) || e != api.OK {
				t.Errorf("%s: %s, %d", what, told(got), e)
			}
		}
	}
	// There is no number, or half of one.
	for _, end := range []string{"", "\x00", "\x01"} {
		expectCorrupt(t, "no number", sealed(bytesOf(api.Recipe{Name: "a"})[:21]+end))
	}
	expectCorrupt(t, "the greatest number, and none", sealed(bytesOf(api.Recipe{Name: "a"})[:21]+"\xff\xff"))
}

// P16.2: a Size or a manifest out of its bounds, and a Re and an Im of any four bytes; the CRC is right, and is not.
func TestGetFields(t *testing.T) {
	for _, r := range someRecipes() {
		whole := bytesOf(r)
		expect := func(what string, other api.Recipe) {
			t.Helper()
			s := bytesOf(other)
			if got := expectGet(t, what, s); nothing(got) == validByWords(other) {
				t.Errorf("%s: by the words %s", what, told(got))
			}
			if !validByWords(other) {
				expectCorrupt(t, what, s)
			}
			if !sameByWords(r, other) {
				expectCorrupt(t, what+", another CRC", cutSealed(s)+whole[len(whole)-4:])
			}
		}
		for _, n := range []int{0, 1, 255, 256, 65535, 65536, 1<<20 - 1, 1 << 20, 1<<20 + 1, 1<<20 + 2, 1 << 21, 1<<24 + 1, 1<<31 - 1, 1 << 31, 1<<32 - 2, 1<<32 - 1} {
			other := r
			other.Size = n
			expect(fmt.Sprint("Size ", n), other)
		}
		for _, n := range []int{-1 << 31, -1<<31 + 1, -65536, -256, -1, 0, 1, 255, 65536, 1<<31 - 2, 1<<31 - 1} {
			other := r
			other.Re = n
			expect(fmt.Sprint("Re ", n), other)
			other = r
			other.Im = n
			expect(fmt.Sprint("Im ", n), other)
		}
		for at := range r.Mans {
			for _, id := range edgeIDs() {
				if at < 3 || at > len(r.Mans)-3 || at == 500 {
					other := r
					other.Mans = slices.Clone(r.Mans)
					other.Mans[at] = id
					expect(fmt.Sprintf("%d at %d", id, at), other)
				}
			}
		}
	}
}

// P16.2: parts of two recipes, laid one behind the other, also with a CRC that is right.
func TestGetMixed(t *testing.T) {
	a := bytesOf(api.Recipe{Name: "one", Size: 5, Re: 6, Im: -7, Mans: []uint32{1, 2}})
	b := bytesOf(api.Recipe{Name: "two", Size: 8, Re: -9, Im: 10, Mans: []uint32{7, 1}})
	for at := range a {
		expectGet(t, "mixed", a[:at]+b[at:])
		expectGet(t, "mixed", b[:at]+a[at:])
		expectGet(t, "mixed and sealed", sealed((a[:at] + b[at:])[:len(a)-4]))
		expectGet(t, "moved", a[at:]+a[:at])
		for end := at; end < len(a); end++ {
			expectGet(t, "mixed", a[:at]+b[at:end]+a[end:])
			expectGet(t, "mixed and sealed", sealed((a[:at] + b[at:end] + a[end:])[:len(a)-4]))
		}
	}
}

// P16.5: Get of Put is the recipe, and Put of Get the bytes.
func TestRoundTrip(t *testing.T) {
	next := anyNumbers(5)
	l := someRecipes()
	for range 200 {
		l = append(l, anyRecipe(next))
	}
	for _, r := range l {
		s, e := Put(r)
		got, getE := Get(s)
		again, againE := Put(got)
		if e != api.OK || getE != api.OK || againE != api.OK || !sameByWords(got, r) || !Same(got, r) || again != s {
			t.Errorf("%s: %d; %s, %d; %d", told(r), e, told(got), getE, againE)
		}
		scribble(got)
		if again, e := Get(s); !sameByWords(again, r) || e != api.OK {
			t.Errorf("%s: Get once more: %s, %d", told(r), told(again), e)
		}
		expectPut(t, "round", r)
	}
}

// P16.2: lists and names that are beyond any recipe.
func TestPutMany(t *testing.T) {
	for _, n := range []int{1 << 16, 1<<16 + 1, 1<<16 + 1024, 1 << 18} {
		for _, r := range []api.Recipe{{Name: "a", Mans: make([]uint32, n)}, {Name: "a", Mans: mans(n)}, {Name: strings.Repeat("x", n)}} {
			expectErr(t, "Check", Check(r), api.ErrArg)
			if s, e := Put(r); s != "" || e != api.ErrArg {
				t.Errorf("Put: %d bytes, %d", len(s), e)
			}
			expectCorrupt(t, "many", bytesOf(r))
		}
	}
}

func FuzzGet(f *testing.F) {
	f.Add("", 0, byte(1))
	for i, r := range someRecipes()[:5] {
		s := bytesOf(r)
		f.Add(s, 5*i, byte(i))
		f.Add(s[20:len(s)-4], 1, byte(200))
	}
	f.Fuzz(func(t *testing.T, s string, at int, c byte) {
		expectGet(t, "fuzz", s)
		expectGet(t, "fuzz, sealed", sealed(s))
		if len(s) > 4 {
			expectGet(t, "fuzz, sealed again", sealed(cutSealed(s)))
		}
		if at >= 0 && at < len(s) {
			expectGet(t, "fuzz, changed", changedByte(s, at, c))
			expectGet(t, "fuzz, changed and sealed", sealed(changedByte(s, at, c)))
			expectGet(t, "fuzz, cut", sealed(s[:at]))
		}
		name := s[:min(len(s), int(c)%52)]
		left := s[len(name):]
		head := "RECP" + string([]byte{c, byte(at), c & 31, 0}) + "\xfe\xff\xff" + string([]byte{c}) + "\x01\x00\x00" + string([]byte{byte(at)}) + pack.Text(name) + pack.U16(uint16(len(left)/4))
		expectGet(t, "fuzz, with a head", sealed(head+left[:len(left)/4*4]))
		expectGet(t, "fuzz, with a head, and more", sealed(head+left))
	})
}

func FuzzPut(f *testing.F) {
	f.Add("a", 1, 2, 3, uint32(4), uint16(5))
	f.Add(strings.Repeat("n", 48), mostSize, -1<<31, 1<<31-1, uint32(mostID), uint16(1024))
	f.Add("", math.MinInt, math.MaxInt, math.MinInt, uint32(0), uint16(1025))
	f.Fuzz(func(t *testing.T, name string, size, re, im int, id uint32, many uint16) {
		r := api.Recipe{Name: name, Size: size, Re: re, Im: im, Mans: mans(int(many) % 1030)}
		expectPut(t, "fuzz", r)
		r.Mans = slices.Insert(r.Mans, int(many)%(len(r.Mans)+1), id)
		expectPut(t, "fuzz", r)
		expectGet(t, "fuzz", bytesOf(r))
		r.Name, r.Size = name[:min(len(name), 48)], size&(1<<21-1)
		expectPut(t, "fuzz, likely valid", r)
		r.Re, r.Im = re>>31, im>>31
		expectPut(t, "fuzz, likely valid", r)
		expectJoin(t, "fuzz", name, r)
		expectFits(t, "fuzz", r, name, fitsByWords(r, name))
	})
}
