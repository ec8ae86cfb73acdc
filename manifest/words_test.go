package manifest

import (
	"encoding/binary"
	"fmt"
	"hash/crc32"
	"math"
	"math/big"
	"slices"
	"testing"

	"sheaf/api"
)

// The limits, as the document writes them.
const (
	mostID      = 1<<32 - 2
	mostEntries = 256
	mostLen     = 4096
	mostSlot    = 255
)

func validEntryByWords(x api.Entry) bool {
	return x.Len >= 1 && x.Len <= mostLen && x.Box >= 1 && x.Box <= mostID && x.Slot >= 0 && x.Slot <= mostSlot
}

func validByWords(m api.Manifest) bool {
	for _, x := range m.Entries {
		if !validEntryByWords(x) {
			return false
		}
	}
	return m.ID >= 1 && m.ID <= mostID && len(m.Entries) >= 1 && len(m.Entries) <= mostEntries
}

func checkByWords(m api.Manifest) api.Errno {
	if validByWords(m) {
		return api.OK
	}
	return api.ErrArg
}

// sizeByWords adds up the parts of a manifest.
func sizeByWords(entries int) int {
	if entries < 1 || entries > mostEntries {
		return 0
	}
	n := 4 + 4 + 2
	for range entries {
		n += 32 + 2 + 4 + 2
	}
	return n + 4
}

// numbered returns the bytes of a manifest, valid or not, with a number of entries that need not be theirs, and a CRC that
// is right for it. Numbers that have not enough bytes come round.
func numbered(m api.Manifest, number int) string {
	b := binary.LittleEndian.AppendUint32([]byte("MANI"), m.ID)
	b = binary.LittleEndian.AppendUint16(b, uint16(number))
	for _, x := range m.Entries {
		b = append(b, x.Fp[:]...)
		b = binary.LittleEndian.AppendUint16(b, uint16(x.Len))
		b = binary.LittleEndian.AppendUint32(b, x.Box)
		b = binary.LittleEndian.AppendUint16(b, uint16(x.Slot))
	}
	return sealed(string(b))
}

// bytesOf returns the bytes of a manifest, also of one that is not valid.
func bytesOf(m api.Manifest) string { return numbered(m, len(m.Entries)) }

// sealed returns bytes with their CRC behind them.
func sealed(s string) string {
	return string(binary.LittleEndian.AppendUint32([]byte(s), crc32.ChecksumIEEE([]byte(s))))
}

func putByWords(m api.Manifest) (string, api.Errno) {
	if !validByWords(m) {
		return "", api.ErrArg
	}
	return bytesOf(m), api.OK
}

// number returns the number of n bytes that stands at an index, the lowest byte first.
func number(s string, at, n int) uint32 {
	var k uint32
	for i := range n {
		k += uint32(s[at+i]) << (8 * i)
	}
	return k
}

// getByWords takes the numbers from where they stand.
func getByWords(s string) (api.Manifest, api.Errno) {
	if len(s) < 14 || s[:4] != "MANI" {
		return api.Manifest{}, api.ErrCorrupt
	}
	m := api.Manifest{ID: number(s, 4, 4)}
	end := 10 + 40*int(number(s, 8, 2))
	if len(s) != end+4 || number(s, end, 4) != crc32.ChecksumIEEE([]byte(s[:end])) {
		return api.Manifest{}, api.ErrCorrupt
	}
	for at := 10; at < end; at += 40 {
		x := api.Entry{Len: int(number(s, at+32, 2)), Box: number(s, at+34, 4), Slot: int(number(s, at+38, 2))}
		for i := range x.Fp {
			x.Fp[i] = s[at+i]
		}
		m.Entries = append(m.Entries, x)
	}
	if !validByWords(m) {
		return api.Manifest{}, api.ErrCorrupt
	}
	return m, api.OK
}

// sumByWords is the int that is the sum modulo 2^64.
func sumByWords(m api.Manifest) int {
	sum := new(big.Int)
	for _, x := range m.Entries {
		sum.Add(sum, big.NewInt(int64(x.Len)))
	}
	sum.Mod(sum, new(big.Int).Lsh(big.NewInt(1), 64))
	return int(sum.Uint64())
}

// hookByWords goes through the first bits of a fingerprint, as long as it has some.
func hookByWords(f api.Fp, bits int) bool {
	for i := 0; i < bits && i < 256; i++ {
		if f[i/8]>>(7-i%8)&1 == 1 {
			return false
		}
	}
	return true
}

// lessByWords tells whether a fingerprint is less than another one.
func lessByWords(a, b api.Fp) bool {
	for i := range a {
		if a[i] != b[i] {
			return a[i] < b[i]
		}
	}
	return false
}

// hooksByWords puts each hook where it belongs among those that it has.
func hooksByWords(m api.Manifest, bits int) []api.Fp {
	var l []api.Fp
	for _, x := range m.Entries {
		if !hookByWords(x.Fp, bits) {
			continue
		}
		at := 0
		for at < len(l) && lessByWords(l[at], x.Fp) {
			at++
		}
		if at == len(l) || l[at] != x.Fp {
			l = slices.Insert(l, at, x.Fp)
		}
	}
	return l
}

// place returns the place with this box and slot.
func place(box uint32, slot int) api.Place { return api.Place{Box: box, Slot: slot} }

// placesByWords puts each place where it belongs among those that it has.
func placesByWords(m api.Manifest) []api.Place {
	var l []api.Place
	for _, x := range m.Entries {
		at := 0
		for at < len(l) && (l[at].Box < x.Box || l[at].Box == x.Box && l[at].Slot < x.Slot) {
			at++
		}
		if at == len(l) || l[at].Box != x.Box || l[at].Slot != x.Slot {
			l = slices.Insert(l, at, place(x.Box, x.Slot))
		}
	}
	return l
}

// turnByWords goes through the moves for each entry.
func turnByWords(m api.Manifest, moves []Move) (api.Manifest, int) {
	turned := api.Manifest{ID: m.ID}
	n := 0
	for _, x := range m.Entries {
		for _, v := range moves {
			if v.From.Box == x.Box && v.From.Slot == x.Slot {
				x.Box, x.Slot = v.To.Box, v.To.Slot
				n++
				break
			}
		}
		turned.Entries = append(turned.Entries, x)
	}
	return turned, n
}

func sameByWords(a, b api.Manifest) bool {
	if a.ID != b.ID || len(a.Entries) != len(b.Entries) {
		return false
	}
	for i, x := range a.Entries {
		y := b.Entries[i]
		if lessByWords(x.Fp, y.Fp) || lessByWords(y.Fp, x.Fp) || x.Len != y.Len || x.Box != y.Box || x.Slot != y.Slot {
			return false
		}
	}
	return true
}

// expectErr holds the error of a call.
func expectErr(t *testing.T, what string, e, want api.Errno) {
	t.Helper()
	if e != want {
		t.Errorf("%s: error %d, not %d", what, e, want)
	}
}

// told is a manifest as a text, without most of many entries, or of their fingerprints.
func told(m api.Manifest) string {
	s := fmt.Sprintf("ID %d, %d entries:", m.ID, len(m.Entries))
	for _, x := range m.Entries[:min(len(m.Entries), 8)] {
		s += fmt.Sprintf(" %x.. %d %d/%d;", x.Fp[:4], x.Len, x.Box, x.Slot)
	}
	return s
}

// cropped is a text without most of a long one.
func cropped(s string) string { return s[:min(len(s), 200)] }

// few is a list without most of many.
func few[T any](l []T) []T { return l[:min(len(l), 12)] }

// kept does a call, and holds that the list that it is passed stays as it is, with what is behind its end.
func kept[T comparable](t *testing.T, what string, l []T, behind T, do func(l []T)) {
	t.Helper()
	given := append(slices.Clone(l), behind)[:len(l)]
	do(given)
	if !slices.Equal(given, l) || given[:len(l)+1][len(l)] != behind {
		t.Errorf("%s: the list was changed", what)
	}
}

// keptEntries does likewise with the entries of a manifest.
func keptEntries(t *testing.T, what string, m api.Manifest, do func(m api.Manifest)) {
	t.Helper()
	kept(t, what, m.Entries, api.Entry{Fp: api.Fp{7}, Len: 77, Box: 777, Slot: 7}, func(l []api.Entry) {
		do(api.Manifest{ID: m.ID, Entries: l})
	})
}

// expectPut holds Check and Put against the document's words, and what Put returned against what it was made from; it
// returns the bytes.
func expectPut(t *testing.T, what string, m api.Manifest) string {
	t.Helper()
	what += ": " + told(m)
	want, wantE := putByWords(m)
	keptEntries(t, what, m, func(m api.Manifest) {
		for range 2 {
			expectErr(t, "Check: "+what, Check(m), wantE)
			if s, e := Put(m); s != want || e != wantE {
				t.Errorf("Put: %s: %q %d, not %q %d", what, cropped(s), e, cropped(want), wantE)
			}
		}
	})
	if wantE != api.OK {
		return ""
	}
	if n := Size(len(m.Entries)); n != len(want) {
		t.Errorf("%s: Size %d of %d bytes", what, n, len(want))
	}
	if !sameByWords(expectGet(t, what, want), m) {
		t.Errorf("%s: Get returns another one", what)
	}
	return want
}

// expectGet holds Get against the document's words; it returns the manifest, or none.
func expectGet(t *testing.T, what, s string) api.Manifest {
	t.Helper()
	want, wantE := getByWords(s)
	for range 2 {
		m, e := Get(s)
		if !sameByWords(m, want) || e != wantE {
			t.Errorf("%s: Get of %q: %s, %d, not %s, %d", what, cropped(s), told(m), e, told(want), wantE)
			break
		}
		if again, e := Put(m); wantE == api.OK && (again != s || e != api.OK) {
			t.Errorf("%s: Put returns %q %d for what is got of %q", what, cropped(again), e, cropped(s))
		}
		// What is written into an answer is not to be seen in the next one.
		for i := range m.Entries {
			m.Entries[i] = api.Entry{Len: -1}
		}
	}
	return want
}

// expectCorrupt holds that a text is not the bytes of a manifest, by the document's words, too.
func expectCorrupt(t *testing.T, what, s string) {
	t.Helper()
	if m := expectGet(t, what, s); len(m.Entries) > 0 {
		t.Errorf("%s: by the words it is one: %q", what, cropped(s))
	}
	if m, e := Get(s); m.ID != 0 || len(m.Entries) > 0 || e != api.ErrCorrupt {
		t.Errorf("%s: Get of %q: %s, %d", what, cropped(s), told(m), e)
	}
}

// edgeBits returns numbers of bits at which something changes, and ones that no fingerprint has.
func edgeBits() []int {
	return []int{math.MinInt, math.MinInt32, -257, -1, 0, 1, 2, 7, 8, 9, 31, 32, 33, 255, 256, 257, 1 << 32, 1<<32 + 1, math.MaxInt}
}

// expectAny holds all calls that accept any manifest, but Turn, against the document's words.
func expectAny(t *testing.T, what string, m api.Manifest) {
	t.Helper()
	what += ": " + told(m)
	keptEntries(t, what, m, func(m api.Manifest) {
		if n, want := Bytes(m), sumByWords(m); n != want {
			t.Errorf("%s: Bytes %d, not %d", what, n, want)
		}
		for _, bits := range edgeBits() {
			expectHooks(t, what, m, bits)
		}
		expectPlaces(t, what, m)
		if !Same(m, m) {
			t.Errorf("%s: it is not the same as itself", what)
		}
	})
}

// expectHooks writes into the answer, too: that is not to be seen in the next one.
func expectHooks(t *testing.T, what string, m api.Manifest, bits int) {
	t.Helper()
	want := hooksByWords(m, bits)
	for range 2 {
		l := Hooks(m, bits)
		if !slices.Equal(l, want) {
			t.Errorf("%s: Hooks for %d bits: %x, not %x", what, bits, few(l), few(want))
		}
		for i := range l {
			l[i] = api.Fp{99, 99}
		}
	}
}

// expectPlaces does likewise.
func expectPlaces(t *testing.T, what string, m api.Manifest) {
	t.Helper()
	want := placesByWords(m)
	for range 2 {
		l := Places(m)
		if !slices.Equal(l, want) {
			t.Errorf("%s: Places: %v, not %v", what, few(l), few(want))
		}
		for i := range l {
			l[i] = place(99, 99)
		}
	}
}

// expectTurn holds Turn against the document's words, with both lists; it returns the manifest.
func expectTurn(t *testing.T, what string, m api.Manifest, moves ...Move) api.Manifest {
	t.Helper()
	what += ": " + told(m)
	want, wantN := turnByWords(m, moves)
	keptEntries(t, what, m, func(m api.Manifest) {
		kept(t, what, moves, Move{From: place(7, 7), To: place(77, 77)}, func(moves []Move) {
			for range 2 {
				got, n := Turn(m, moves...)
				if !sameByWords(got, want) || n != wantN {
					t.Errorf("%s: Turn by %v: %s, %d, not %s, %d", what, few(moves), told(got), n, told(want), wantN)
				}
				// It is not to be seen in the manifest, in the moves, or in the next answer.
				for i := range got.Entries {
					got.Entries[i] = api.Entry{Len: -1}
				}
			}
		})
	})
	return want
}

// anyNumbers returns what makes numbers from 0 on, below what it is asked for; another seed gives other ones.
func anyNumbers(seed uint32) func(below int) int {
	return func(below int) int {
		seed = seed*1664525 + 1013904223
		return int(seed>>8) % below
	}
}

// printOf returns a fingerprint; another number gives another one.
func printOf(n int) api.Fp {
	var f api.Fp
	next := anyNumbers(uint32(n)*7919 + 1)
	for i := range f {
		f[i] = byte(next(256))
	}
	return f
}

// entry returns an entry that is valid; another number gives another one.
func entry(n int) api.Entry {
	return api.Entry{Fp: printOf(n), Len: 1 + n*37%mostLen, Box: 1 + uint32(n)*0x01020304%mostID, Slot: n * 91 % (mostSlot + 1)}
}

// listOf returns a manifest with n entries.
func listOf(id uint32, n int) api.Manifest {
	m := api.Manifest{ID: id}
	for i := range n {
		m.Entries = append(m.Entries, entry(i))
	}
	return m
}

// with returns a manifest of which an entry is another one.
func with(m api.Manifest, at int, x api.Entry) api.Manifest {
	l := slices.Clone(m.Entries)
	l[at] = x
	return api.Manifest{ID: m.ID, Entries: l}
}

// anyManifest returns a manifest that is valid, of which several entries may be the same, or at one place.
func anyManifest(next func(below int) int) api.Manifest {
	m := api.Manifest{ID: uint32(1 + next(1<<(1+next(23))))}
	kinds, boxes, slots := 1+next(300), 1+next(1+next(300)), 1+next(mostSlot+1)
	for range 1 + next(1+next(mostEntries)) {
		x := entry(next(kinds))
		x.Box, x.Slot = uint32(1+next(boxes)), next(slots)
		if next(2) == 0 {
			x.Fp[0], x.Fp[1] = 0, x.Fp[1]>>next(9)
		}
		m.Entries = append(m.Entries, x)
	}
	return m
}
