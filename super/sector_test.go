package super

import (
	"encoding/binary"
	"math"
	"slices"
	"strconv"
	"strings"
	"testing"

	"sheaf/api"
	"sheaf/crc"
	"sheaf/pack"
)

// someSupers returns superblocks that are valid: without runs, with one, with sixteen, and with numbers of all their bytes.
func someSupers() []api.Super {
	full := api.Super{Seq: 0x0807060504030201, Sectors: 8192, Journal: 259, Used: 0x8001, Size: 16*257*128 - 5}
	for i := range 16 {
		full.Runs = append(full.Runs, api.Run{At: 0x1eff - i*0x181, Len: 257})
	}
	return []api.Super{
		ordinary(), plain(1, 4, 1), plain(math.MaxUint64, 8192, 8190), full, blob(0), blob(1, 6, 1), blob(94*128, 6, 94),
		but(func(s *api.Super) { s.Seq, s.Size, s.Runs = 3, 16*128, alone(6, 16) }),
		but(func(s *api.Super) { s.Seq, s.Size, s.Runs = 1<<32, 15*128, alone(60, 15) }),
	}
}

// sectorOf returns the sector of a superblock that is valid.
func sectorOf(t *testing.T, s api.Super) string {
	t.Helper()
	sector, e := Put(s)
	if e != api.OK || len(sector) != sectorBytes {
		t.Fatalf("Put of %s: %q %d", told(s), sector, e)
	}
	return sector
}

// P11.2: a sector, byte by byte.
func TestPutKnown(t *testing.T) {
	got := sectorOf(t, api.Super{Seq: 0x0102030405060708, Sectors: 0x1234, Journal: 0x0203, Used: 0x00010103, Size: 0x0301, Runs: runs(0x0b0a, 4, 0x0d0c, 3)})
	want := "SHEAF001" + "\x08\x07\x06\x05\x04\x03\x02\x01" +
		"\x34\x12\x00\x00" + "\x03\x02\x00\x00" + "\x03\x01\x01\x00" + "\x01\x03\x00\x00" +
		"\x02\x00" + "\x00\x00" + "\x0a\x0b\x04\x00" + "\x0c\x0d\x03\x00" + strings.Repeat("\x00", 80)
	if len(want) != sumIndex || got != want+pack.U32(crc.Sum(want)) {
		t.Errorf("%q, not %q and its sum", got, want)
	}
	body, e := crc.Open(got)
	if body != want || e != api.OK {
		t.Errorf("opened: %q %d", body, e)
	}
	got = sectorOf(t, plain(1, 4, 1))
	want = "SHEAF001\x01\x00\x00\x00\x00\x00\x00\x00\x04\x00\x00\x00\x01" + strings.Repeat("\x00", 103)
	if len(want) != sumIndex || got != want+pack.U32(crc.Sum(want)) {
		t.Errorf("without a run: %q", got)
	}
}

// P11.2, P11.5: each byte of a sector with each other value, with the old sum and with a right one.
func TestGetBytes(t *testing.T) {
	for _, s := range someSupers()[:4] {
		sector := sectorOf(t, s)
		expectGet(t, "a sector", sector)
		for at := range sectorBytes {
			for by := 1; by < 256; by++ {
				b := []byte(sector)
				b[at] ^= byte(by)
				if o, e := Get(string(b)); e != api.ErrCorrupt || !sameByWords(o, api.Super{}) {
					t.Errorf("byte %d changed by %d: %s %d", at, by, told(o), e)
				}
				if at < sumIndex {
					expectGet(t, "byte "+strconv.Itoa(at)+" changed by "+strconv.Itoa(by)+", right sum", sealed(b))
				}
			}
		}
	}
}

// P11.2: changes of up to 32 bits side by side, at each place.
func TestGetBursts(t *testing.T) {
	sector := sectorOf(t, ordinary())
	next := anyNumbers(3)
	for at := -31; at < 8*sectorBytes; at++ {
		for _, bits := range []uint32{1, 3, 1 << 31, math.MaxUint32, uint32(next(1<<24))<<8 | 1} {
			expectGet(t, "bits from "+strconv.Itoa(at), crc.Turn(sector, at, bits))
		}
	}
}

// P11.2: texts of other lengths, whatever their bytes are.
func TestGetLengths(t *testing.T) {
	for _, s := range someSupers() {
		sector := sectorOf(t, s)
		for n := range 2 * sectorBytes {
			for what, text := range map[string]string{
				"of a sector": (sector + sector)[:n], "of a sector from behind": (sector + sector)[2*sectorBytes-n:], "filled": pack.Fill(sector, n)[:n],
				"zero bytes": strings.Repeat("\x00", n), "others": strings.Repeat("\xff", n), "marked": ("SHEAF001" + strings.Repeat("\x01", 256))[:n], "sealed": crc.Seal((sector + sector)[:n]),
			} {
				got, e := Get(text)
				if want := text == sector; want != (e == api.OK) || e != api.OK && e != api.ErrCorrupt || want != sameByWords(got, s) || !want && !sameByWords(got, api.Super{}) {
					t.Errorf("%d bytes, %s: %s %d", n, what, told(got), e)
				}
			}
		}
	}
	for _, n := range []int{1 << 16, 1<<16 + 1, blobBytes, blobBytes + 128} {
		expectGet(t, strconv.Itoa(n)+" bytes", pack.Fill(sectorOf(t, ordinary()), n))
		expectGet(t, strconv.Itoa(n)+" bytes, sealed", crc.Seal(pack.Fill(sectorOf(t, ordinary()), n)))
	}
}

// P11.2: sectors whose sum is right, and one thing of which is not as it must be.
func TestGetWrong(t *testing.T) {
	sector := sectorOf(t, ordinary())
	full := sectorOf(t, but(func(s *api.Super) { s.Size, s.Runs = 16*128, alone(6, 16) }))
	if resealed(sector, 0, "") != sector || resealed(full, 0, "") != full {
		t.Fatal("a sector, sealed again, is another one")
	}
	wrong := map[string]string{
		"another mark": resealed(sector, 7, "2"), "a small letter": resealed(sector, 0, "s"), "no mark": resealed(sector, 0, "\x00\x00\x00\x00\x00\x00\x00\x00"), "a mark turned round": resealed(sector, 0, "100FAEHS"),
		"Seq 0": resealed(sector, 8, pack.U64(0)), "3 sectors": resealed(sector, 16, pack.U32(3)), "8193 sectors": resealed(sector, 16, pack.U32(8193)), "too few sectors": resealed(sector, 16, pack.U32(20)), "all bits of Sectors": resealed(sector, 16, pack.U32(math.MaxUint32)),
		"Journal 0": resealed(sector, 20, pack.U32(0)), "Journal in the runs": resealed(sector, 20, pack.U32(9)), "a short journal": resealed(sector, 20, pack.U32(2)), "all bits of Journal": resealed(sector, 20, pack.U32(math.MaxUint32)), "bit 31 of Journal": resealed(sector, 20, pack.U32(1<<31|4)),
		"Used 513": resealed(sector, 24, pack.U32(513)), "all bits of Used": resealed(sector, 24, pack.U32(math.MaxUint32)), "Size 256": resealed(sector, 28, pack.U32(256)), "Size 385": resealed(sector, 28, pack.U32(385)), "Size 0": resealed(sector, 28, pack.U32(0)), "all bits of Size": resealed(sector, 28, pack.U32(math.MaxUint32)),
		"one run less": resealed(sector, 32, "\x01"), "no run": resealed(sector, 32, "\x00"), "one run more": resealed(sector, 32, "\x03"), "a great number of runs": resealed(sector, 33, "\x01"),
		"0 is 1": resealed(sector, 34, "\x01"), "0 is 256": resealed(sector, 35, "\x01"), "0 is 65535": resealed(sector, 34, "\xff\xff"), "0 is 1, all runs": resealed(full, 34, "\x01"),
		"a run within the journal": resealed(sector, 36, "\x05"), "a run beyond the end": resealed(sector, 36, "\x64"), "a run of no sector": resealed(sector, 38, "\x00"), "runs that overlap": resealed(sector, 36, "\x0a"), "a run of all bits": resealed(sector, 36, "\xff\xff\xff\xff"),
		"At without a run": resealed(sector, 44, "\x30"), "Len without a run": resealed(sector, 46, "\x01"), "a run without its number": resealed(sector, 44, "\x30\x00\x01\x00"), "the last place": resealed(sector, 96, "\x30"), "the last place's last byte": resealed(sector, 99, "\x01"),
		"behind all places": resealed(full, 100, "\x01"), "behind all places, at the end": resealed(full, 123, "\x80"), "17 runs, and a place more": resealed(full, 32, "\x11\x00\x00\x00"), "a 17th run": resealed(resealed(full, 32, "\x11"), 100, "\x30\x00\x01\x00"),
		"a 17th run, and its bytes": resealed(resealed(resealed(full, 32, "\x11"), 100, "\x30\x00\x01\x00"), 28, pack.U32(17*128)), "16 runs, and one of zeros less": resealed(full, 96, "\x00\x00\x00\x00"),
	}
	for what, text := range wrong {
		if s, e := Get(text); e != api.ErrCorrupt || !sameByWords(s, api.Super{}) {
			t.Errorf("%s: %s %d", what, told(s), e)
		}
		expectGet(t, what, text)
	}
	for at := 100; at < sumIndex; at++ {
		for _, text := range []string{resealed(sector, at, "\x01"), resealed(full, at, "\x80")} {
			if s, e := Get(text); e != api.ErrCorrupt || !sameByWords(s, api.Super{}) {
				t.Errorf("byte %d is not 0: %s %d", at, told(s), e)
			}
		}
	}
}

// P11.2: every number of runs, with sectors that have as many runs, or fewer.
func TestGetNumberOfRuns(t *testing.T) {
	for runsThere := range mostRuns + 1 {
		s := but(func(s *api.Super) { s.Size, s.Runs = runsThere*128, alone(6, runsThere) })
		sector := sectorOf(t, s)
		for n := range 300 {
			text := resealed(sector, 32, pack.U16(uint16(n)))
			expectGet(t, strconv.Itoa(n)+" runs", text)
			if _, e := Get(text); (e == api.OK) != (n == runsThere) {
				t.Errorf("%d runs where there are %d: %d", n, runsThere, e)
			}
			expectGet(t, strconv.Itoa(n)+" runs, and their bytes", resealed(text, 28, pack.U32(uint32(n*128))))
		}
		for n := 300; n <= math.MaxUint16; n += 997 {
			expectGet(t, strconv.Itoa(n)+" runs", resealed(sector, 32, pack.U16(uint16(n))))
		}
		expectGet(t, "65535 runs", resealed(sector, 32, "\xff\xff"))
	}
}

// P11.2: sectors whose sum is right, and with one or two numbers at the edges.
func TestGetNumbers(t *testing.T) {
	at := []int{8, 12, 16, 20, 24, 28}
	for _, s := range someSupers() {
		sector := sectorOf(t, s)
		for _, n := range numbersAround() {
			for i := range at {
				for _, k := range at[:i+1] {
					expectGet(t, "other numbers", resealed(resealed(sector, at[i], pack.U32(uint32(n))), k, pack.U32(uint32(n))))
				}
			}
			for place := 32; place < 100; place += 2 {
				expectGet(t, "other numbers of a run", resealed(sector, place, pack.U16(uint16(n))))
			}
		}
	}
}

// P11.2: a sector that no Put would be asked for: its superblock is not valid, its sum is right.
func TestGetNotValid(t *testing.T) {
	for _, c := range allChecked() {
		if len(c.s.Runs) > mostRuns || !hasPlaces(c.s) {
			continue
		}
		text := sectorByWords(c.s)
		expectSuper(t, c.what, func() (api.Super, api.Errno) { return Get(text) }, c.s, c.ok)
		expectGet(t, c.what, text)
	}
}

// hasPlaces tells whether the places of a sector have bytes enough for the numbers of a superblock.
func hasPlaces(s api.Super) bool {
	fits := func(bits int, l ...int) bool {
		return !slices.ContainsFunc(l, func(n int) bool { return n < 0 || n >= 1<<bits })
	}
	for _, r := range s.Runs {
		if !fits(16, r.At, r.Len) {
			return false
		}
	}
	return fits(32, s.Sectors, s.Journal, s.Used, s.Size)
}

// P11.2, P11.5: superblocks of all kinds: sectors mixed of two of them, and torn ones.
func TestGetTorn(t *testing.T) {
	next := anyNumbers(5)
	for range 300 {
		s := anySuper(next)
		a, b := sectorOf(t, s), sectorOf(t, anySuper(next))
		n := next(sectorBytes + 1)
		expectGet(t, "torn", a[:n]+b[n:])
		expectGet(t, "torn, right sum", sealed([]byte(a[:n]+b[n:])))
		expectGet(t, "the rest zero", pack.Fill(a[:n], sectorBytes))
		torn, _ := Put(Next(s))
		expectGet(t, "torn of a Next", torn[:n]+a[n:])
	}
}

// Rule 4: what is passed, or was returned, may be changed behind the call, and no call changes it.
func TestRunsApart(t *testing.T) {
	mark := api.Run{At: 77, Len: 7}
	for _, s := range someSupers() {
		passed := copied(s)
		spare := append(passed.Runs, mark, mark)
		passed.Runs = spare[:len(s.Runs)]
		sector := sectorOf(t, passed)
		x, y := mustGet(t, sector), mustGet(t, sector)
		picked, e := Pick(sector, sector)
		expectErr(t, "Pick", e, api.OK)
		next, again := Next(passed), Next(passed)
		Check(passed)
		Same(passed, next)
		if !sameByWords(passed, s) || spare[len(s.Runs)] != mark || spare[len(s.Runs)+1] != mark {
			t.Fatalf("what was passed was changed: %s", told(passed))
		}
		for _, o := range []api.Super{x, picked, next} {
			spoil(o.Runs)
		}
		if !sameByWords(passed, s) || !sameByWords(y, s) || !sameByWords(again, Next(s)) || spare[len(s.Runs)] != mark {
			t.Errorf("%s: changed behind a result", told(s))
		}
		spoil(spare)
		if !sameByWords(y, s) || !sameByWords(again, Next(s)) || !sameByWords(mustGet(t, sector), s) || sectorOf(t, s) != sector {
			t.Errorf("%s: changed behind an argument", told(s))
		}
	}
}

// mustGet returns the superblock of a sector.
func mustGet(t *testing.T, sector string) api.Super {
	t.Helper()
	s, e := Get(sector)
	expectErr(t, "Get", e, api.OK)
	return s
}

// spoil changes a list, and what stands behind it.
func spoil(l []api.Run) {
	l = l[:cap(l)]
	for i := range l {
		l[i] = api.Run{At: 99, Len: 99}
	}
}

func FuzzGet(f *testing.F) {
	f.Add("", "", 0)
	f.Add("SHEAF001\x02\x00\x00\x00\x00\x00\x00\x00\x64\x00\x00\x00\x04", "\x03", 8)
	for _, s := range someSupers() {
		f.Add(sectorByWords(s), sectorByWords(Next(s)), 1)
	}
	f.Fuzz(func(t *testing.T, a, b string, n int) {
		right := sealed([]byte(pack.Fill(a, sectorBytes))[:sectorBytes])
		other := sealed([]byte(pack.Fill(b, sectorBytes))[:sectorBytes])
		turned := crc.Turn(right, n, binary.LittleEndian.Uint32([]byte(other[8:])))
		texts := []string{a, b, right, other, turned, sealed([]byte(turned))}
		for _, one := range texts {
			expectGet(t, "Get", one)
			for _, two := range texts {
				expectPick(t, "Pick", one, two)
			}
		}
	})
}

func FuzzPut(f *testing.F) {
	f.Add(uint64(2), 100, 4, 300, 300, 10, 2, 20, 1)
	f.Add(uint64(1), 8192, 8189, 0, 128, 8191, 1, 0, 0)
	f.Add(uint64(math.MaxUint64), 4, 1, 128, 1, 3, 1, math.MaxInt, math.MaxInt)
	f.Fuzz(func(t *testing.T, seq uint64, sectors, journal, used, size, at, n, at2, n2 int) {
		for _, l := range [][]api.Run{runs(at, n, at2, n2), runs(at, n), nil} {
			s := api.Super{Seq: seq, Sectors: sectors, Journal: journal, Used: used, Size: size, Runs: l}
			expectCheck(t, "Check", s)
			s.Size = (n + n2) * sectorBytes
			expectCheck(t, "Check", s)
			expectNext(t, "Next", s)
			expectEither(t, s, anyNumbers(uint32(at)))
		}
	})
}
