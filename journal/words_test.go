package journal

import (
	"encoding/binary"
	"fmt"
	"hash/crc32"
	"math"
	"math/big"
	"slices"
	"strings"
	"testing"

	"sheaf/api"
	"sheaf/disk"
)

// The limits, as the document writes them.
const (
	sectorBytes = 128
	blobBytes   = 1 << 20
	most        = 8192
	mostRuns    = 16
	mostName    = 48
	mostID      = 1<<32 - 2
	mostTx      = 8192
)

// runs returns a list by pairs of At and Len.
func runs(pairs ...int) []api.Run {
	var l []api.Run
	for i := 0; i < len(pairs); i += 2 {
		l = append(l, api.Run{At: pairs[i], Len: pairs[i+1]})
	}
	return l
}

// alone returns n runs of one sector each, from a place on, none of which touches another one.
func alone(at, n int) []api.Run {
	var l []api.Run
	for i := range n {
		l = append(l, api.Run{At: at + 2*i, Len: 1})
	}
	return l
}

// blob returns a record of a box with a blob.
func blob(size int, l []api.Run) api.Rec {
	return api.Rec{Kind: api.RBox, ID: 5, Size: size, Runs: l}
}

// eachKind returns a record of each kind, with nothing in it at an edge.
func eachKind() []api.Rec {
	return []api.Rec{
		{Kind: api.RBox, ID: 1000, Size: 300, Runs: runs(20, 1, 10, 2)},
		{Kind: api.RMan, ID: 70000, Size: 129, Runs: runs(300, 2)},
		{Kind: api.RName, Name: "a name", Size: 500, Runs: runs(7, 1, 5, 1, 9, 2)},
		{Kind: api.RNoBox, ID: 258},
		{Kind: api.RNoMan, ID: 3},
		{Kind: api.RNoName, Name: "b"},
	}
}

func copied(r api.Rec) api.Rec {
	r.Runs = slices.Clone(r.Runs)
	return r
}

// with returns a record with a change; the one that it was passed stays as it is.
func with(r api.Rec, change func(o *api.Rec)) api.Rec {
	o := copied(r)
	change(&o)
	return o
}

// fitByWords marks the sectors of runs, one by one.
func fitByWords(l []api.Run, size int) bool {
	if len(l) > mostRuns {
		return false
	}
	var taken [most]bool
	sectors := 0
	for _, r := range l {
		end := new(big.Int).Add(big.NewInt(int64(r.At)), big.NewInt(int64(r.Len)))
		if r.At < 0 || r.Len < 1 || end.Cmp(big.NewInt(most)) > 0 {
			return false
		}
		for i := r.At; i < r.At+r.Len; i++ {
			if taken[i] {
				return false
			}
			taken[i] = true
			sectors++
		}
	}
	// The bytes need the least number of sectors that have as many.
	return sectors*sectorBytes >= size && (sectors-1)*sectorBytes < size
}

func validByWords(r api.Rec) bool {
	id := r.ID >= 1 && r.ID <= mostID
	name := len(r.Name) >= 1 && len(r.Name) <= mostName
	stored := r.Size >= 0 && r.Size <= blobBytes && fitByWords(r.Runs, r.Size)
	noID, noName, noBlob := r.ID == 0, r.Name == "", r.Size == 0 && len(r.Runs) == 0
	switch r.Kind {
	case 1, 2:
		return id && noName && stored
	case 3:
		return noID && name && stored
	case 4, 5:
		return id && noName && noBlob
	case 6:
		return noID && name && noBlob
	}
	return false
}

func sameByWords(a, b api.Rec) bool {
	if a.Kind != b.Kind || a.ID != b.ID || a.Name != b.Name || a.Size != b.Size || len(a.Runs) != len(b.Runs) {
		return false
	}
	for i, r := range a.Runs {
		if r.At != b.Runs[i].At || r.Len != b.Runs[i].Len {
			return false
		}
	}
	return true
}

// blobBytesByWords returns the Size, the number of the runs, and the runs; the number is the one that it is passed.
func blobBytesByWords(r api.Rec, number int) string {
	b := binary.LittleEndian.AppendUint32(nil, uint32(r.Size))
	b = binary.LittleEndian.AppendUint16(b, uint16(number))
	for _, o := range r.Runs {
		b = binary.LittleEndian.AppendUint16(b, uint16(o.At))
		b = binary.LittleEndian.AppendUint16(b, uint16(o.Len))
	}
	return string(b)
}

// recordByWords returns the bytes of a record, valid or not, but of its kind.
func recordByWords(r api.Rec) string { return numberedByWords(r, len(r.Runs)) }

// numberedByWords returns the bytes of a record with another number of runs.
func numberedByWords(r api.Rec, number int) string {
	kind := string([]byte{byte(r.Kind)})
	id := string(binary.LittleEndian.AppendUint32(nil, r.ID))
	name := string(binary.LittleEndian.AppendUint32(nil, uint32(len(r.Name)))) + r.Name
	switch r.Kind {
	case 1, 2:
		return kind + id + blobBytesByWords(r, number)
	case 3:
		return kind + name + blobBytesByWords(r, number)
	case 4, 5:
		return kind + id
	}
	return kind + name
}

// sealed returns a body with the number of its bytes, and their CRC, ahead of it.
func sealed(body string) string {
	b := binary.LittleEndian.AppendUint32(nil, uint32(len(body)))
	return string(binary.LittleEndian.AppendUint32(b, crc32.ChecksumIEEE([]byte(body)))) + body
}

// counted returns a body of a number of records, whatever follows.
func counted(n int, records string) string {
	return string(binary.LittleEndian.AppendUint16(nil, uint16(n))) + records
}

func txByWords(l []api.Rec) (string, api.Errno) {
	if len(l) == 0 || len(l) > mostTx {
		return "", api.ErrMany
	}
	var body strings.Builder
	for _, r := range l {
		if !validByWords(r) {
			return "", api.ErrArg
		}
		body.WriteString(recordByWords(r))
	}
	return sealed(counted(len(l), body.String())), api.OK
}

// taker takes bytes off a text, as long as there are enough.
type taker struct {
	left string
	ok   bool
}

func (r *taker) take(n int) []byte {
	if !r.ok || n > len(r.left) {
		r.ok = false
		return make([]byte, 8)
	}
	s := r.left[:n]
	r.left = r.left[n:]
	return []byte(s)
}

func (r *taker) u16() int    { return int(binary.LittleEndian.Uint16(r.take(2))) }
func (r *taker) u32() uint32 { return binary.LittleEndian.Uint32(r.take(4)) }

func (r *taker) record() api.Rec {
	o := api.Rec{Kind: api.RecKind(r.take(1)[0])}
	switch o.Kind {
	case 1, 2, 4, 5:
		o.ID = r.u32()
	case 3, 6:
		if n := int(r.u32()); n <= mostName && n <= len(r.left) {
			o.Name = string(r.take(n))
		}
	}
	if o.Kind >= 1 && o.Kind <= 3 {
		o.Size = int(r.u32())
		for k := r.u16(); k > 0 && r.ok && len(o.Runs) <= mostRuns; k-- {
			at := r.u16()
			o.Runs = append(o.Runs, api.Run{At: at, Len: r.u16()})
		}
	}
	return o
}

// readByWords reads a text, and holds what it read against the text by what the words make of it: nothing else has
// these bytes.
func readByWords(s string) ([][]api.Rec, api.Errno) {
	var all [][]api.Rec
	again := ""
	for r := (taker{s, true}); r.left != ""; {
		n := int(r.u32())
		r.take(4)
		if !r.ok || n > len(r.left) {
			return nil, api.ErrCorrupt
		}
		body := taker{string(r.take(n)), true}
		var l []api.Rec
		for k := body.u16(); k > 0 && body.ok && len(l) <= mostTx; k-- {
			l = append(l, body.record())
		}
		bytes, e := txByWords(l)
		if e != api.OK || !body.ok {
			return nil, api.ErrCorrupt
		}
		all, again = append(all, l), again+bytes
	}
	if again != s {
		return nil, api.ErrCorrupt
	}
	return all, api.OK
}

// areaByWords returns the bytes of an area that there is.
func areaByWords(w *disk.Disk, journal int) string {
	var b strings.Builder
	for i := 2; i < 2+journal; i++ {
		s, _ := w.Read(i)
		b.WriteString(s)
	}
	return b.String()
}

// inArea tells whether a disk has such an area, and the area so many bytes.
func inArea(w *disk.Disk, journal, used int) bool {
	if journal < 1 || big.NewInt(int64(journal)).Cmp(big.NewInt(int64(w.Len()-2))) > 0 {
		return false
	}
	return used >= 0 && used <= journal*sectorBytes
}

func loadByWords(w *disk.Disk, journal, used int) (string, api.Errno) {
	switch {
	case w.Len() == 0:
		return "", api.ErrNil
	case !inArea(w, journal, used):
		return "", api.ErrArg
	case w.Down():
		return "", api.ErrDown
	}
	return areaByWords(w, journal)[:used], api.OK
}

// write is a write that a call is to make.
type write struct {
	sector int
	s      string
}

// writesOf returns the writes that an Append makes, in order, byte by byte.
func writesOf(w *disk.Disk, journal, used int, s string) []write {
	area := areaByWords(w, journal)
	var all []write
	for k := range journal {
		b := make([]byte, sectorBytes)
		has := false
		for i := range b {
			switch at := k*sectorBytes + i; {
			case at < used:
				b[i] = area[at]
			case at < used+len(s):
				b[i] = s[at-used]
				has = true
			}
		}
		if has {
			all = append(all, write{2 + k, string(b)})
		}
	}
	return all
}

func appendByWords(w *disk.Disk, journal, used int, s string) (int, api.Errno) {
	switch {
	case w.Len() == 0:
		return 0, api.ErrNil
	case !inArea(w, journal, used):
		return 0, api.ErrArg
	case len(s) > journal*sectorBytes-used:
		return 0, api.ErrFull
	case w.Down():
		return 0, api.ErrDown
	}
	for _, o := range writesOf(w, journal, used, s) {
		if e := w.Write(o.sector, o.s); e != api.OK {
			return 0, e
		}
	}
	return used + len(s), api.OK
}

// text returns n bytes, of which no two sectors are equal; another seed gives other ones throughout. None of them is a zero byte.
func text(seed, n int) string {
	b := make([]byte, n)
	next := uint32(seed)*7919 + 1
	for i := range b {
		next = next*1664525 + 1013904223
		b[i] = byte(1 + next>>8%255)
	}
	return string(b)
}

// loaded returns a disk of so many sectors, of which no two are equal.
func loaded(t *testing.T, sectors int) *disk.Disk {
	t.Helper()
	d, e := disk.Load(text(1000+sectors, sectors*sectorBytes))
	if e != api.OK {
		t.Fatalf("Load of %d sectors: %d", sectors, e)
	}
	return d
}

// downOf returns a disk that is down behind an operation.
func downOf(t *testing.T, sectors int) *disk.Disk {
	t.Helper()
	d := loaded(t, sectors)
	d.Fuse(0)
	expectErr(t, "Flush that is cut", d.Flush(), api.ErrDown)
	return d
}

// two are disks that were given the same: one by the calls, the other one by the document's words.
type two struct{ d, w *disk.Disk }

func twoOf(t *testing.T, sectors int) two {
	t.Helper()
	return two{loaded(t, sectors), loaded(t, sectors)}
}

// both does the same with the one and the other.
func (p two) both(do func(d *disk.Disk)) {
	do(p.d)
	do(p.w)
}

// told is a record as a text, without most of a long list or name.
func told(r api.Rec) string {
	if len(r.Runs) > 20 {
		r.Runs = r.Runs[:20]
	}
	if len(r.Name) > 60 {
		r.Name = r.Name[:60]
	}
	return fmt.Sprintf("%+v", r)
}

// expectErr holds the error of a call.
func expectErr(t *testing.T, what string, e, want api.Errno) {
	t.Helper()
	if e != want {
		t.Errorf("%s: error %d, not %d", what, e, want)
	}
}

// expectDisks holds all that can be asked of the one against the other. What is pending, and in which order, is told by nothing but Power.
func expectDisks(t *testing.T, what string, p two) {
	t.Helper()
	if p.d.Len() != p.w.Len() || p.d.Waits() != p.w.Waits() || p.d.Ops() != p.w.Ops() || p.d.Down() != p.w.Down() {
		t.Fatalf("%s: %d wait, %d operations, down %v, not %d, %d, %v", what, p.d.Waits(), p.d.Ops(), p.d.Down(), p.w.Waits(), p.w.Ops(), p.w.Down())
	}
	if p.d.Image() != p.w.Image() {
		t.Fatalf("%s: the image is another one", what)
	}
	for i := range p.w.Len() {
		s, e := p.d.Read(i)
		if want, wantE := p.w.Read(i); s != want || e != wantE {
			t.Fatalf("%s: sector %d has %q %d, not %q %d", what, i, s, e, want, wantE)
		}
	}
}

// doLoad does a Load, twice, and holds it against the document's words; it returns the bytes.
func doLoad(t *testing.T, p two, journal, used int) (string, api.Errno) {
	t.Helper()
	want, wantE := loadByWords(p.w, journal, used)
	what := fmt.Sprintf("Load of %d bytes of %d sectors, on %d", used, journal, p.w.Len())
	for range 2 {
		if s, e := Load(p.d, journal, used); s != want || e != wantE {
			t.Errorf("%s: %q %d, not %q %d", what, s, e, want, wantE)
		}
	}
	expectDisks(t, what, p)
	return want, wantE
}

// doAppend does an Append, and holds it against the document's words; it returns what they return.
func doAppend(t *testing.T, p two, journal, used int, s string) (int, api.Errno) {
	t.Helper()
	want, wantE := appendByWords(p.w, journal, used, s)
	what := fmt.Sprintf("Append of %d bytes behind %d of %d sectors, on %d", len(s), used, journal, p.w.Len())
	if n, e := Append(p.d, journal, used, s); n != want || e != wantE {
		t.Errorf("%s: %d %d, not %d %d", what, n, e, want, wantE)
	}
	expectDisks(t, what, p)
	return want, wantE
}

// kept does a call, and holds that the records that it is passed stay as they are, with what is behind the ends of their list and of their runs.
func kept(t *testing.T, what string, l []api.Rec, do func(l []api.Rec)) {
	t.Helper()
	behind := api.Run{At: -77, Len: -7}
	mark := api.Rec{Kind: -7, ID: 77, Name: "behind", Size: -777, Runs: []api.Run{behind}}
	given := make([]api.Rec, len(l), len(l)+1)
	for i, r := range l {
		given[i] = r
		given[i].Runs = append(slices.Clone(r.Runs), behind)[:len(r.Runs)]
	}
	whole := append(given, mark)
	do(given)
	for i, r := range whole[:len(l)] {
		if !sameByWords(r, l[i]) || r.Runs[:len(r.Runs)+1][len(r.Runs)] != behind {
			t.Errorf("%s: the record %s was changed to %s", what, told(l[i]), told(r))
		}
	}
	if !sameByWords(whole[len(l)], mark) {
		t.Errorf("%s: what is behind the list was changed", what)
	}
}

// expectCheck holds Check of a record, and Tx of it alone, against the document's words, and Read of what Tx returned against the record.
func expectCheck(t *testing.T, what string, r api.Rec) {
	t.Helper()
	want := api.ErrArg
	if validByWords(r) {
		want = api.OK
	}
	kept(t, what, []api.Rec{r}, func(l []api.Rec) {
		for range 2 {
			if e := Check(l[0]); e != want {
				t.Errorf("%s: Check of %s: %d, not %d", what, told(r), e, want)
			}
		}
	})
	expectTx(t, what, []api.Rec{r})
}

// expectTx holds Tx against the document's words, twice, and Read of what it returned; it returns the bytes.
func expectTx(t *testing.T, what string, l []api.Rec) string {
	t.Helper()
	want, wantE := txByWords(l)
	kept(t, what, l, func(l []api.Rec) {
		for range 2 {
			if s, e := Tx(l...); s != want || e != wantE {
				t.Errorf("%s: Tx of %d records: %q %d, not %q %d", what, len(l), s, e, want, wantE)
			}
		}
	})
	if wantE == api.OK {
		expectRead(t, what, want, [][]api.Rec{l}, api.OK)
	}
	return want
}

func sameLists(a, b [][]api.Rec) bool {
	return slices.EqualFunc(a, b, func(x, y []api.Rec) bool { return slices.EqualFunc(x, y, sameByWords) })
}

// expectRead holds what Read returns of a text, twice, against what is wanted.
func expectRead(t *testing.T, what, s string, want [][]api.Rec, wantE api.Errno) {
	t.Helper()
	for range 2 {
		if got, e := Read(s); !sameLists(got, want) || e != wantE {
			t.Errorf("%s: Read of %q: %v %d, not %v %d", what, cropped(s), got, e, want, wantE)
		}
	}
}

// expectWords holds what Read returns of a text against the document's words, and tells whether they are transactions.
func expectWords(t *testing.T, what, s string) bool {
	t.Helper()
	want, wantE := readByWords(s)
	expectRead(t, what, s, want, wantE)
	return wantE == api.OK
}

// expectCorrupt holds that a text is refused, by the document's words, too.
func expectCorrupt(t *testing.T, what, s string) {
	t.Helper()
	if expectWords(t, what, s) {
		t.Errorf("%s: transactions, by the words: %q", what, cropped(s))
	}
}

// cropped is a text without most of a long one.
func cropped(s string) string { return s[:min(len(s), 300)] }

// anyNumbers returns what makes numbers from 0 on, below what it is asked for; another seed gives other ones.
func anyNumbers(seed uint32) func(below int) int {
	return func(below int) int {
		seed = seed*1664525 + 1013904223
		return int(seed>>8) % below
	}
}

// anyBlob returns runs in any order, and a size that they fit.
func anyBlob(next func(below int) int) (int, []api.Run) {
	var l []api.Run
	sectors := 0
	for at := next(50); at < most && len(l) < next(mostRuns+1); {
		n := 1 + next(min(most-at, 1+next(600)))
		l = append(l, api.Run{At: at, Len: n})
		sectors += n
		at += n + next(3)*next(200)
	}
	for i := range l {
		k := next(i + 1)
		l[i], l[k] = l[k], l[i]
	}
	if sectors == 0 {
		return 0, nil
	}
	return sectors*sectorBytes - next(sectorBytes), l
}

// anyRecord returns a record that is valid.
func anyRecord(next func(below int) int) api.Rec {
	r := api.Rec{Kind: api.RecKind(1 + next(6))}
	switch r.Kind {
	case api.RName, api.RNoName:
		r.Name = text(next(1000), 1+next(mostName))
	default:
		r.ID = uint32(1 + next(1<<(1+next(23))))
	}
	if r.Kind <= api.RName {
		r.Size, r.Runs = anyBlob(next)
	}
	return r
}

// anyTx returns records for a transaction.
func anyTx(next func(below int) int) []api.Rec {
	var l []api.Rec
	for range 1 + next(6) {
		l = append(l, anyRecord(next))
	}
	return l
}

// numbersAround returns numbers at which something changes, those beside them, and the least and the greatest there are.
func numbersAround() []int {
	l := []int{math.MinInt, math.MinInt + 1, math.MinInt32, -most, -sectorBytes, -2, -1, 0, 1, 2, math.MaxInt32, 1 << 32, 1<<32 + 1, 1<<32 + 300, 1 << 62, math.MaxInt - 1, math.MaxInt}
	for _, n := range []int{10, 20, sectorBytes, 300, most, 1 << 16, blobBytes} {
		l = append(l, n-1, n, n+1)
	}
	return l
}
