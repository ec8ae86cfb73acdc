package super

import (
	"encoding/binary"
	"fmt"
	"hash/crc32"
	"math"
	"math/big"
	"slices"
	"strings"
	"testing"

	"sheaf/api"
)

// The bytes of a sector and of a blob, and how many sectors and runs there are at most, as the document writes them.
const (
	sectorBytes = 128
	blobBytes   = 1 << 20
	most        = 8192
	mostRuns    = 16
	sumIndex    = 124
)

// runs returns a list by pairs of At and Len.
func runs(pairs ...int) []api.Run {
	var l []api.Run
	for i := 0; i < len(pairs); i += 2 {
		l = append(l, api.Run{At: pairs[i], Len: pairs[i+1]})
	}
	return l
}

// alone returns n runs of one sector each, from a place on, none of which touches another one.
func alone(at, n int) []api.Run {
	var l []api.Run
	for i := range n {
		l = append(l, api.Run{At: at + 2*i, Len: 1})
	}
	return l
}

// ordinary returns a superblock that has nothing at an edge.
func ordinary() api.Super {
	return api.Super{Seq: 2, Sectors: 100, Journal: 4, Used: 300, Size: 300, Runs: runs(20, 1, 10, 2)}
}

// but returns an ordinary superblock with a change.
func but(change func(s *api.Super)) api.Super {
	s := ordinary()
	change(&s)
	return s
}

// blob returns an ordinary superblock with another blob.
func blob(size int, pairs ...int) api.Super {
	return but(func(s *api.Super) { s.Size, s.Runs = size, runs(pairs...) })
}

// plain returns a superblock without a blob, and with nothing in its journal.
func plain(seq uint64, sectors, journal int) api.Super {
	return api.Super{Seq: seq, Sectors: sectors, Journal: journal}
}

func copied(s api.Super) api.Super {
	s.Runs = slices.Clone(s.Runs)
	return s
}

// sum is a sum of integers without bounds.
func sum(l ...int) *big.Int {
	n := new(big.Int)
	for _, i := range l {
		n.Add(n, big.NewInt(int64(i)))
	}
	return n
}

// needByWords returns the least number of sectors whose bytes are at least so many.
func needByWords(size int) *big.Int {
	if size < 1 {
		return new(big.Int)
	}
	n, rest := new(big.Int).DivMod(sum(size), sum(sectorBytes), new(big.Int))
	if rest.Sign() > 0 {
		n.Add(n, sum(1))
	}
	return n
}

// atMost holds an integer without bounds against a sum.
func atMost(n *big.Int, l ...int) bool { return n.Cmp(sum(l...)) <= 0 }

func validByWords(s api.Super) bool {
	journalBytes := new(big.Int).Mul(sum(s.Journal), sum(sectorBytes))
	if s.Seq < 1 || s.Sectors < 4 || s.Sectors > most || s.Journal < 1 || !atMost(sum(2, s.Journal), s.Sectors) {
		return false
	}
	if s.Used < 0 || sum(s.Used).Cmp(journalBytes) > 0 || s.Size < 0 || s.Size > blobBytes || len(s.Runs) > mostRuns {
		return false
	}
	total := new(big.Int)
	for i, r := range s.Runs {
		if atMost(sum(r.At), 1, s.Journal) || r.Len < 1 || !atMost(sum(r.At, r.Len), s.Sectors) {
			return false
		}
		for k, o := range s.Runs {
			if k != i && !atMost(sum(o.At, o.Len), r.At) && !atMost(sum(r.At, r.Len), o.At) {
				return false
			}
		}
		total.Add(total, sum(r.Len))
	}
	return total.Cmp(needByWords(s.Size)) == 0
}

// sectorByWords returns the sector of a superblock that is valid.
func sectorByWords(s api.Super) string {
	b := make([]byte, sectorBytes)
	copy(b, "SHEAF001")
	binary.LittleEndian.PutUint64(b[8:], s.Seq)
	for i, n := range []int{s.Sectors, s.Journal, s.Used, s.Size} {
		binary.LittleEndian.PutUint32(b[16+4*i:], uint32(n))
	}
	binary.LittleEndian.PutUint16(b[32:], uint16(len(s.Runs)))
	for i, r := range s.Runs {
		binary.LittleEndian.PutUint16(b[36+4*i:], uint16(r.At))
		binary.LittleEndian.PutUint16(b[38+4*i:], uint16(r.Len))
	}
	return sealed(b)
}

// sealed returns the bytes with the sum of those ahead of it in its place.
func sealed(b []byte) string {
	b = slices.Clone(b)
	binary.LittleEndian.PutUint32(b[sumIndex:], crc32.ChecksumIEEE(b[:sumIndex]))
	return string(b)
}

// resealed returns a text with other bytes from an index on, and with the sum that it then needs.
func resealed(s string, at int, by string) string {
	b := []byte(s)
	copy(b[at:], by)
	return sealed(b)
}

// getByWords returns the superblock whose sector a text is, if there is one.
func getByWords(text string) (api.Super, bool) {
	if len(text) != sectorBytes || sealed([]byte(text)) != text || !strings.HasPrefix(text, "SHEAF001") {
		return api.Super{}, false
	}
	b := []byte(text)
	n := int(binary.LittleEndian.Uint16(b[32:]))
	if n > mostRuns || b[34] != 0 || b[35] != 0 || strings.Trim(text[36+4*n:sumIndex], "\x00") != "" {
		return api.Super{}, false
	}
	s := api.Super{Seq: binary.LittleEndian.Uint64(b[8:])}
	for i, number := range []*int{&s.Sectors, &s.Journal, &s.Used, &s.Size} {
		*number = int(binary.LittleEndian.Uint32(b[16+4*i:]))
	}
	for i := range n {
		s.Runs = append(s.Runs, api.Run{At: int(binary.LittleEndian.Uint16(b[36+4*i:])), Len: int(binary.LittleEndian.Uint16(b[38+4*i:]))})
	}
	if !validByWords(s) {
		return api.Super{}, false
	}
	return s, true
}

func pickByWords(a, b string) (api.Super, bool) {
	s, ok := getByWords(a)
	ok = ok && s.Seq%2 == 0
	o, other := getByWords(b)
	other = other && o.Seq%2 == 1
	if other && (!ok || o.Seq > s.Seq) {
		return o, true
	}
	if ok {
		return s, true
	}
	return api.Super{}, false
}

// nextByWords adds without bounds, and takes the rest.
func nextByWords(s api.Super) api.Super {
	n := new(big.Int).SetUint64(s.Seq)
	n.Add(n, sum(1))
	s.Seq = n.Mod(n, new(big.Int).Lsh(sum(1), 64)).Uint64()
	return copied(s)
}

func sameByWords(a, b api.Super) bool {
	if a.Seq != b.Seq || a.Sectors != b.Sectors || a.Journal != b.Journal || a.Used != b.Used || a.Size != b.Size || len(a.Runs) != len(b.Runs) {
		return false
	}
	for i, r := range a.Runs {
		if r.At != b.Runs[i].At || r.Len != b.Runs[i].Len {
			return false
		}
	}
	return true
}

// told is a superblock as a text, without most of a long list.
func told(s api.Super) string {
	if len(s.Runs) > 20 {
		s.Runs = s.Runs[:20]
	}
	return fmt.Sprint(s)
}

// expectErr holds the error of a call.
func expectErr(t *testing.T, what string, e, want api.Errno) {
	t.Helper()
	if e != want {
		t.Errorf("%s: error %d, not %d", what, e, want)
	}
}

// expectSuper holds what a call returned, twice asked, against the superblock that is wanted: with an error it is nothing.
func expectSuper(t *testing.T, what string, call func() (api.Super, api.Errno), want api.Super, ok bool) {
	t.Helper()
	wantE := api.OK
	if !ok {
		want, wantE = api.Super{}, api.ErrCorrupt
	}
	for range 2 {
		if s, e := call(); !sameByWords(s, want) || e != wantE {
			t.Errorf("%s: %s %d, not %s %d", what, told(s), e, told(want), wantE)
		}
	}
}

// expectGet holds Get against the document's words, and, if there is a superblock, Put of it against the sector.
func expectGet(t *testing.T, what, text string) {
	t.Helper()
	want, ok := getByWords(text)
	expectSuper(t, what, func() (api.Super, api.Errno) { return Get(text) }, want, ok)
	if !ok {
		return
	}
	if again, e := Put(want); again != text || e != api.OK {
		t.Errorf("%s: Put of Get: %q %d, not %q", what, again, e, text)
	}
}

// expectPick holds Pick against the document's words.
func expectPick(t *testing.T, what, a, b string) {
	t.Helper()
	want, ok := pickByWords(a, b)
	expectSuper(t, what, func() (api.Super, api.Errno) { return Pick(a, b) }, want, ok)
}

// expectCheck holds Check, Put, and Get of what Put returned, against the document's words; the superblock must stay as it is.
func expectCheck(t *testing.T, what string, s api.Super) {
	t.Helper()
	before := copied(s)
	wantE, want := api.ErrArg, ""
	if validByWords(s) {
		wantE, want = api.OK, sectorByWords(s)
	}
	for range 2 {
		if e := Check(s); e != wantE {
			t.Errorf("%s: Check of %s: %d, not %d", what, told(s), e, wantE)
		}
		if sector, e := Put(s); sector != want || e != wantE {
			t.Errorf("%s: Put of %s: %q %d, not %q %d", what, told(s), sector, e, want, wantE)
		}
	}
	if wantE == api.OK {
		expectSuper(t, what+": Get of Put", func() (api.Super, api.Errno) { return Get(want) }, s, true)
	}
	if !sameByWords(s, before) {
		t.Errorf("%s: %s was changed to %s", what, told(before), told(s))
	}
}

// anyNumbers returns what makes numbers from 0 on, below what it is asked for; another seed gives other ones.
func anyNumbers(seed uint32) func(below int) int {
	return func(below int) int {
		seed = seed*1664525 + 1013904223
		return int(seed>>8) % below
	}
}

// anySuper returns a superblock that is valid.
func anySuper(next func(below int) int) api.Super {
	s := plain(uint64(next(1<<24))<<next(41)+1, 4+next(most-3), 0)
	s.Journal = 1 + next(min(s.Sectors-2, 1+next(most)))
	s.Used = next(s.Journal*sectorBytes + 1)
	sectors := 0
	for at := 2 + s.Journal + next(3); at < s.Sectors && len(s.Runs) < next(mostRuns+1); {
		n := 1 + next(min(s.Sectors-at, 1+next(300)))
		s.Runs = append(s.Runs, api.Run{At: at, Len: n})
		sectors += n
		at += n + next(3)*next(200)
	}
	for i := range s.Runs {
		k := next(i + 1)
		s.Runs[i], s.Runs[k] = s.Runs[k], s.Runs[i]
	}
	if sectors > 0 {
		s.Size = sectors*sectorBytes - next(sectorBytes)
	}
	return s
}

// numbersAround returns all numbers at which something changes, those beside them, and the least and the greatest there are.
func numbersAround() []int {
	l := []int{math.MinInt, math.MinInt + 1, math.MinInt32, -most, -sectorBytes, -2, -1, math.MaxInt32, 1 << 32, 1<<32 + 4, 1<<32 + 100, 1 << 62, math.MaxInt - 1, math.MaxInt}
	for _, n := range []int{1, 4, 6, 8, 100, 98, sectorBytes, 300, 4 * sectorBytes, most, most - 2, 1 << 16, blobBytes, most - 3*sectorBytes} {
		l = append(l, n-1, n, n+1)
	}
	return l
}
