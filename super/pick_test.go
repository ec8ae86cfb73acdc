package super

import (
	"math"
	"slices"
	"strconv"
	"strings"
	"testing"

	"sheaf/api"
	"sheaf/crc"
	"sheaf/pack"
)

// withSeq returns an ordinary superblock of that Seq.
func withSeq(seq uint64) api.Super { return but(func(s *api.Super) { s.Seq = seq }) }

// expectPicked holds which superblock counts; a Seq of 0 stands for none.
func expectPicked(t *testing.T, what, a, b string, seq uint64) {
	t.Helper()
	expectSuper(t, what, func() (api.Super, api.Errno) { return Pick(a, b) }, withSeq(seq), seq != 0)
	expectPick(t, what, a, b)
}

// P11.3: no superblock, one in a slot or in the wrong one, two of them.
func TestPickKnown(t *testing.T) {
	seq := func(n uint64) string { return sectorOf(t, withSeq(n)) }
	zero, top := strings.Repeat("\x00", sectorBytes), uint64(math.MaxUint64)
	for _, c := range []struct {
		what, a, b string
		want       uint64
	}{
		{"none", "", "", 0}, {"zero bytes", zero, zero, 0}, {"one in slot 0", seq(2), zero, 2}, {"one in slot 1", zero, seq(3), 3}, {"the first of all", zero, seq(1), 1}, {"one in slot 0, no bytes in 1", seq(2), "", 2}, {"no bytes in 0", "", seq(3), 3},
		{"the newer in slot 1", seq(2), seq(3), 3}, {"the newer in slot 0", seq(4), seq(3), 4}, {"far apart", seq(2), seq(99), 99}, {"far apart, turned round", seq(98), seq(1), 98}, {"next to the other", seq(2), seq(1), 2},
		{"the same Seq, even", seq(2), seq(2), 2}, {"the same Seq, odd", seq(3), seq(3), 3}, {"one in the wrong slot 0", seq(3), zero, 0}, {"one in the wrong slot 1", zero, seq(2), 0}, {"both in the wrong slots", seq(3), seq(2), 0}, {"both in the wrong slots, turned round", seq(1), seq(4), 0},
		{"a newer one in the wrong slot 0", seq(5), seq(3), 3}, {"an older one in the wrong slot 0", seq(1), seq(3), 3}, {"a newer one in the wrong slot 1", seq(2), seq(6), 2}, {"an older one in the wrong slot 1", seq(4), seq(2), 4},
		{"the greatest", seq(top - 1), seq(top), top}, {"the greatest alone", zero, seq(top), top}, {"the greatest but one", seq(top - 1), seq(top - 2), top - 1}, {"the greatest and the least", seq(2), seq(top), top}, {"the greatest in the wrong slot", seq(top), seq(1), 1},
		{"numbers that no int holds", seq(1 << 63), seq(1<<63 - 1), 1 << 63}, {"numbers that no int holds, turned round", seq(1<<63 - 2), seq(1<<63 + 1), 1<<63 + 1}, {"beyond 4 bytes", seq(1 << 32), seq(3), 1 << 32},
		{"Seq 0 in slot 0", sectorByWords(withSeq(0)), zero, 0}, {"Seq 0 beside one", sectorByWords(withSeq(0)), seq(1), 1}, {"a newer one that is spoilt in 0", crc.Turn(seq(4), 500, 1), seq(3), 3}, {"a newer one that is spoilt in 1", seq(2), crc.Turn(seq(3), 70, 5), 2}, {"both spoilt", crc.Turn(seq(2), 0, 1), crc.Turn(seq(3), 1023, 1), 0},
		{"too short in 0", seq(4)[:127], seq(3), 3}, {"too long in 0", seq(4) + "\x00", seq(3), 3}, {"too short in 1", seq(2), seq(3)[1:], 2}, {"too long in 1", seq(2), seq(3) + seq(3), 2}, {"not valid, newer", resealed(seq(4), 16, pack.U32(20)), seq(3), 3}, {"not valid, older", seq(4), resealed(seq(3), 16, pack.U32(20)), 4},
	} {
		expectPicked(t, c.what, c.a, c.b, c.want)
	}
}

// P11.3: of two with the same Seq and other contents the one in its slot counts.
func TestPickSameSeq(t *testing.T) {
	for seq, slot := range map[uint64]int{1: 1, 2: 0, 1 << 63: 0, math.MaxUint64: 1} {
		two := []api.Super{withSeq(seq), withSeq(seq)}
		two[0].Used, two[1].Used = 11, 22
		s, e := Pick(sectorOf(t, two[0]), sectorOf(t, two[1]))
		if e != api.OK || !sameByWords(s, two[slot]) {
			t.Errorf("Seq %d: %s %d, not that in slot %d", seq, told(s), e, slot)
		}
	}
}

// P11.3: all pairs of texts: sectors of Seqs of all kinds, spoilt ones, such as are not valid, and texts of any length.
func TestPickPairs(t *testing.T) {
	texts := []string{"", "x", "SHEAF001", strings.Repeat("\x00", 127), strings.Repeat("\x00", 128), strings.Repeat("\xff", 128), strings.Repeat("\x00", 129), strings.Repeat("x", blobBytes)}
	for _, seq := range []uint64{1, 2, 3, 4, 255, 256, 1<<32 - 1, 1 << 32, 1<<63 - 1, 1 << 63, math.MaxUint64 - 1, math.MaxUint64} {
		sector := sectorOf(t, withSeq(seq))
		texts = append(texts, sector, sector[:127], sector[1:], sector+"\x00", crc.Turn(sector, 64, 1), resealed(sector, 28, "\x00\x00\x00\x00"), resealed(sector, 0, "T"), sectorOf(t, plain(seq, 4, 2)))
	}
	texts = append(texts, sectorByWords(withSeq(0)), sectorByWords(plain(0, 4, 1)))
	for i, a := range texts {
		for k, b := range texts {
			expectPick(t, strconv.Itoa(i)+" and "+strconv.Itoa(k), a, b)
		}
	}
}

// expectNext holds Next against the document's words.
func expectNext(t *testing.T, what string, s api.Super) {
	t.Helper()
	before := copied(s)
	want := nextByWords(s)
	for range 2 {
		if got := Next(s); !sameByWords(got, want) {
			t.Errorf("%s: Next of %s: %s, not %s", what, told(s), told(got), told(want))
		}
	}
	if !sameByWords(s, before) {
		t.Errorf("%s: Next changed what it was passed", what)
	}
}

// P11.4: Next of superblocks that are valid and that are not, of the greatest Seq, and one after another.
func TestNext(t *testing.T) {
	for _, c := range allChecked() {
		expectNext(t, c.what, c.s)
	}
	for seq, want := range map[uint64]uint64{
		0: 1, 1: 2, 2: 3, 255: 256, 1<<32 - 1: 1 << 32, 1 << 32: 1<<32 + 1, 1<<63 - 1: 1 << 63, 1 << 63: 1<<63 + 1, math.MaxUint64 - 1: math.MaxUint64, math.MaxUint64: 0,
	} {
		if n := Next(withSeq(seq)); !sameByWords(n, withSeq(want)) {
			t.Errorf("Next of Seq %d: %s", seq, told(n))
		}
	}
	s := ordinary()
	for i := range 100 {
		if Slot(Next(s).Seq) == Slot(s.Seq) || s.Seq != uint64(2+i) || !slices.Equal(s.Runs, ordinary().Runs) {
			t.Fatalf("the Next number %d: %s", i, told(s))
		}
		s = Next(s)
	}
	for _, s := range []api.Super{{}, {Runs: []api.Run{}}} {
		if n := Next(s); n.Seq != 1 || len(n.Runs) != 0 {
			t.Errorf("Next of nothing: %s", told(n))
		}
	}
}

// expectEither holds that of a superblock and its Next, in their slots, the Next counts, and, if one of both is damaged, the other one.
func expectEither(t *testing.T, s api.Super, next func(below int) int) {
	t.Helper()
	n := Next(s)
	if !validByWords(s) || !validByWords(n) {
		return
	}
	sectors := [2]string{}
	sectors[s.Seq%2], sectors[n.Seq%2] = sectorOf(t, s), sectorOf(t, n)
	pick := func() (api.Super, api.Errno) { return Pick(sectors[0], sectors[1]) }
	expectSuper(t, "both", pick, n, true)
	for _, c := range []struct{ damaged, left api.Super }{{s, n}, {n, s}} {
		slot := c.damaged.Seq % 2
		sound := sectors[slot]
		for at := 0; at < 8*sectorBytes; at += 1 + next(17) {
			sectors[slot] = crc.Turn(sound, at, 1|uint32(next(1<<24))<<next(9))
			expectSuper(t, "damaged from bit "+strconv.Itoa(at)+" on", pick, c.left, true)
		}
		for _, damaged := range []string{"", sound[:127], sound + "x", strings.Repeat("\x00", sectorBytes), strings.Repeat("\xff", sectorBytes)} {
			sectors[slot] = damaged
			expectSuper(t, "damaged throughout", pick, c.left, true)
		}
		sectors[slot] = sound
	}
	expectSuper(t, "in the wrong slots", func() (api.Super, api.Errno) { return Pick(sectors[1], sectors[0]) }, api.Super{}, false)
}

// P11.5: a superblock and its Next, either of them damaged; the last Seq that has a Next that is valid.
func TestEither(t *testing.T) {
	next := anyNumbers(9)
	for _, s := range append(someSupers(), withSeq(1), withSeq(math.MaxUint64-1), withSeq(1<<63-1)) {
		expectEither(t, s, next)
	}
	for range 100 {
		expectEither(t, anySuper(next), next)
	}
}

// P11.5: each bit of either sector, and each byte of it with some other values.
func TestEitherBits(t *testing.T) {
	s := withSeq(7)
	n := Next(s)
	older, newer := sectorOf(t, s), sectorOf(t, n)
	for bit := range 8 * sectorBytes {
		expectPicked(t, "the newer damaged at bit "+strconv.Itoa(bit), crc.Turn(newer, bit, 1), older, 7)
		expectPicked(t, "the older damaged at bit "+strconv.Itoa(bit), newer, crc.Turn(older, bit, 1), 8)
		expectPicked(t, "both damaged at bit "+strconv.Itoa(bit), crc.Turn(newer, bit, 1), crc.Turn(older, bit, 1), 0)
	}
	for at := range sectorBytes {
		for _, by := range []uint32{0xff, 0x80, 0x55, 0x2a} {
			expectPicked(t, "the newer damaged at byte "+strconv.Itoa(at), crc.Turn(newer, 8*at, by), older, 7)
			expectPicked(t, "the older damaged at byte "+strconv.Itoa(at), newer, crc.Turn(older, 8*at, by), 8)
		}
	}
}
