package box

import (
	"fmt"
	"slices"
	"strings"
	"testing"

	"sheaf/api"
	"sheaf/crc"
	"sheaf/pack"
)

// P14.1: a box, byte by byte, and the document's example.
func TestBuildKnown(t *testing.T) {
	s, e := Build(0x04030201, "one", "\x00", "\xff\xfe")
	want := "SBOX\x01\x02\x03\x04\x03\x00" +
		"\x03\x00" + pack.U32(crc.Sum("one")) + "\x01\x00" + pack.U32(crc.Sum("\x00")) + "\x02\x00" + pack.U32(crc.Sum("\xff\xfe"))
	if want += pack.U32(crc.Sum(want)) + "one\x00\xff\xfe"; s != want || e != api.OK {
		t.Errorf("%q %d, not %q", s, e, want)
	}
	s, e = Build(7, strings.Repeat("x", 0x0102))
	if e != api.OK || len(s) != 20+0x0102 || s[4:12] != "\x07\x00\x00\x00\x01\x00\x02\x01" {
		t.Errorf("%q %d", cropped(s), e)
	}
	s, e = Build(1, "abcde")
	h, headE := Head(s)
	if len(s) != 25 || e != api.OK || headE != api.OK || Size(h) != 25 {
		t.Errorf("%d bytes, %d; %s, %d", len(s), e, told(h), headE)
	}
	if at, n, e := Where(h, 0); at != 20 || n != 5 || e != api.OK {
		t.Errorf("its chunk: %d %d %d", at, n, e)
	}
}

// P14.1: IDs at the edges, with boxes of all kinds.
func TestBuildIDs(t *testing.T) {
	for id, want := range map[uint32]api.Errno{0: api.ErrArg, 1: api.OK, 2: api.OK, 255: api.OK, 1 << 16: api.OK, 1 << 31: api.OK, 1<<32 - 3: api.OK, 1<<32 - 2: api.OK, 1<<32 - 1: api.ErrArg} {
		for _, l := range [][]string{{"x"}, {"a", "b"}, {"a", "a"}, times(256, 3), times(16, 4096)} {
			expectErr(t, fmt.Sprintf("ID %d, %s", id, listed(l)), Check(id, l...), want)
			expectBuild(t, id, l)
		}
		for _, l := range [][]string{nil, {}, {""}, times(257, 1), times(1, 4097), times(17, 4096)} {
			expectErr(t, fmt.Sprintf("ID %d, %s", id, listed(l)), Check(id, l...), api.ErrArg)
			expectBuild(t, id, l)
		}
	}
}

// P14.1: numbers of chunks at the edges, and all between them.
func TestBuildNumbers(t *testing.T) {
	for n, want := range map[int]api.Errno{0: api.ErrArg, 1: api.OK, 2: api.OK, 255: api.OK, 256: api.OK, 257: api.ErrArg, 258: api.ErrArg, 512: api.ErrArg, 513: api.ErrArg, 1 << 16: api.ErrArg, 1<<16 + 1: api.ErrArg} {
		for _, length := range []int{1, 2, 255, 256} {
			expectErr(t, fmt.Sprintf("%d chunks of %d", n, length), Check(9, times(n, length)...), want)
		}
	}
	for n := range 260 {
		expectBuild(t, 1, times(n, 1))
	}
	for _, n := range []int{0, 1, 2, 255, 256, 257, 258, 1 << 16, 1<<16 + 1} {
		expectBuild(t, mostID, times(n, 255))
		expectBuild(t, 5, slices.Repeat([]string{"x"}, n))
	}
}

// P14.1: a chunk of a length at the edges, first, last, alone and amid others.
func TestBuildLengths(t *testing.T) {
	for n, want := range map[int]api.Errno{0: api.ErrArg, 1: api.OK, 2: api.OK, 255: api.OK, 256: api.OK, 257: api.OK, 4095: api.OK, 4096: api.OK, 4097: api.ErrArg, 4098: api.ErrArg, 8192: api.ErrArg, 65535: api.ErrArg, 65536: api.ErrArg, 65537: api.ErrArg, 1 << 20: api.ErrArg} {
		for _, others := range []int{0, 1, 2, 3, 9} {
			for at := range others + 1 {
				l := slices.Insert(times(others, 40), at, text(9, n))
				expectErr(t, listed(l), Check(3, l...), want)
				expectBuild(t, 3, l)
			}
		}
		l := times(256, 20)
		for _, at := range []int{0, 1, 100, 254, 255} {
			l[at] = text(at, n)
			expectBuild(t, 3, l)
		}
	}
	for n := 1; n <= mostChunk; n += 97 {
		expectBuild(t, 4, []string{text(n, n), "y"})
	}
}

// P14.1: bytes of all chunks together at the edges, by many short ones, few long ones, and by the last one alone.
func TestBuildBytes(t *testing.T) {
	for _, l := range [][]string{
		times(16, 4096), times(256, 256), append(times(255, 255), text(1, 511)), append(times(15, 4096), times(2, 2048)...), append(times(15, 4096), times(128, 32)...),
	} {
		expectErr(t, listed(l), Check(1, l...), api.OK)
		expectBuild(t, 1, l)
		for _, at := range []int{0, 1, len(l) / 2, len(l) - 1} {
			less := slices.Clone(l)
			less[at] = less[at][1:]
			expectErr(t, "one byte less: "+listed(l), Check(1, less...), api.OK)
			expectBuild(t, 1, less)
			greater := slices.Clone(l)
			greater[at] += "z"
			expectErr(t, "one byte more: "+listed(l), Check(1, greater...), api.ErrArg)
			expectBuild(t, 1, greater)
			longer := slices.Insert(slices.Clone(l), at, "z")
			expectErr(t, "one chunk more: "+listed(l), Check(1, longer...), api.ErrArg)
			expectBuild(t, 1, longer)
		}
	}
	expectErr(t, "one byte more than all of 16", Check(1, append(times(16, 4096), "z")...), api.ErrArg)
	expectErr(t, "all of 17", Check(1, times(17, 4096)...), api.ErrArg)
	expectErr(t, "256 of all bytes of one", Check(1, times(256, 4096)...), api.ErrArg)
	// As 16 bits they would be few bytes, and few chunks.
	expectErr(t, "as many bytes as come round to 1", Check(1, append(times(16, 4096), "x")...), api.ErrArg)
	expectErr(t, "as many chunks as come round to 1", Check(1, slices.Repeat([]string{"x"}, 1<<16+1)...), api.ErrArg)
}

// P14.1, P14.5: chunks that are equal, that begin one another, and whose bytes are those of boxes and heads.
func TestBuildContents(t *testing.T) {
	inner := expectBuild(t, 12, []string{"abc", "de"})
	for _, l := range [][]string{
		{"a", "a", "a"}, {"a", "ab", "abc"}, {"abc", "ab", "a"}, {"\x00"}, {"\x00", "\x00\x00"}, {"\xff\xff\xff\xff"}, {inner}, {inner, inner}, {inner[:26], inner[26:]}, {"SBOX"}, {"S", "B", "O", "X"},
		{strings.Repeat("\x00", 4096)}, {strings.Repeat("\xff", 4096), "\xff"}, {"ä", "\u2028", "\xc3"}, slices.Repeat([]string{"\x00"}, 256), {sealed("abc"), "x"},
	} {
		expectBuild(t, 12, l)
		expectBuild(t, mostID, l)
	}
	for at := range inner {
		expectBuild(t, 77, []string{inner[:at] + "x", "y" + inner[at:]})
	}
}

// P14.1, P14.5: boxes of any chunks, and such as have one chunk too long, or too many bytes.
func TestBuildAny(t *testing.T) {
	next := anyNumbers(14)
	for range 300 {
		l := anyChunks(next)
		id := uint32(1 + next(1<<(1+next(23))))
		expectErr(t, listed(l), Check(id, l...), api.OK)
		expectBuild(t, id, l)
		if at := next(len(l)); next(2) == 0 {
			expectBuild(t, id, slices.Insert(l, at, text(at, next(5000))))
		} else {
			expectBuild(t, id, append(l, times(next(300), 1+next(500))...))
		}
	}
}

// P14.1: Check and Build of lists that are beyond any box.
func TestBuildMany(t *testing.T) {
	long := strings.Repeat("x", 1<<20)
	for _, l := range [][]string{{long}, slices.Repeat([]string{long}, 300), slices.Repeat([]string{""}, 1<<18), slices.Repeat([]string{long[:4096]}, 1<<18), append(times(256, 3), long)} {
		for _, id := range []uint32{0, 1, mostID + 1} {
			expectErr(t, "Check", Check(id, l...), api.ErrArg)
			if s, e := Build(id, l...); s != "" || e != api.ErrArg {
				t.Errorf("Build: %d bytes, %d", len(s), e)
			}
		}
	}
}

func FuzzBuild(f *testing.F) {
	f.Add(uint32(1), "abc", uint16(3), uint16(5), uint8(2))
	f.Add(uint32(mostID), "", uint16(4096), uint16(256), uint8(15))
	f.Add(uint32(0), "x", uint16(0), uint16(0), uint8(0))
	f.Fuzz(func(t *testing.T, id uint32, chunk string, a, b uint16, many uint8) {
		l := []string{chunk, text(1, int(a)%5000), chunk}
		expectBuild(t, id, l[:1])
		expectBuild(t, id, l[1:])
		expectBuild(t, id, append(l, times(int(many)+int(a)%2, 1+int(b)%300)...))
		expectBuild(t, id, append(times(int(many)%17, 4096), chunk, text(2, int(b)%4097)))
	})
}
