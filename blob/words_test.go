package blob

import (
	"fmt"
	"iter"
	"math"
	"math/big"
	"slices"
	"strings"
	"testing"

	"sheaf/api"
	"sheaf/disk"
)

// The bytes of a sector and of a blob, and how many sectors and runs there are at most, as the document writes them.
const (
	sectorBytes = 128
	blobBytes   = 1 << 20
	most        = 8192
	mostRuns    = 16
)

// runs returns a list by pairs of At and Len.
func runs(pairs ...int) []api.Run {
	var l []api.Run
	for i := 0; i < len(pairs); i += 2 {
		l = append(l, api.Run{At: pairs[i], Len: pairs[i+1]})
	}
	return l
}

// alone returns n runs of one sector each, from a place on, none of which touches another one.
func alone(at, n int) []api.Run {
	var l []api.Run
	for i := range n {
		l = append(l, api.Run{At: at + 2*i, Len: 1})
	}
	return l
}

// sum is a sum of integers without bounds.
func sum(l ...int) *big.Int {
	n := new(big.Int)
	for _, i := range l {
		n.Add(n, big.NewInt(int64(i)))
	}
	return n
}

// atMost holds a sum of two integers without bounds against a third one.
func atMost(a, b, to int) bool { return sum(a, b).Cmp(sum(to)) <= 0 }

func validByWords(l []api.Run, sectors int) bool {
	for _, r := range l {
		if r.At < 0 || r.Len < 1 || !atMost(r.At, r.Len, sectors) {
			return false
		}
	}
	// No end is above a number of sectors, which is an int.
	for i, r := range l {
		for _, o := range l[:i] {
			if r.At < o.At+o.Len && o.At < r.At+r.Len {
				return false
			}
		}
	}
	return true
}

// needByWords returns the least number of sectors whose bytes are at least so many.
func needByWords(size int) *big.Int {
	n, rest := new(big.Int).DivMod(sum(size), sum(sectorBytes), new(big.Int))
	if rest.Sign() > 0 {
		n.Add(n, sum(1))
	}
	return n
}

func fitByWords(l []api.Run, sectors, size int) bool {
	if size < 0 || len(l) > mostRuns || !validByWords(l, min(sectors, most)) {
		return false
	}
	total := sum()
	for _, r := range l {
		total.Add(total, sum(r.Len))
	}
	return total.Cmp(needByWords(size)) == 0
}

func eachByWords(l []api.Run) []int {
	if !validByWords(l, most) {
		return nil
	}
	var sectors []int
	for _, r := range l {
		for i := r.At; i < r.At+r.Len; i++ {
			sectors = append(sectors, i)
		}
	}
	return sectors
}

func shareByWords(a, b []api.Run) bool {
	others := eachByWords(b)
	return slices.ContainsFunc(eachByWords(a), func(i int) bool { return slices.Contains(others, i) })
}

// refusesByWords returns the errors that come ahead of what a call does, in order.
func refusesByWords(w *disk.Disk, fit bool) api.Errno {
	switch {
	case w.Len() == 0:
		return api.ErrNil
	case !fit:
		return api.ErrArg
	case w.Down():
		return api.ErrDown
	}
	return api.OK
}

// filled returns a text with zero bytes up to the end of its last sector.
func filled(s string) string {
	return s + strings.Repeat("\x00", (sectorBytes-len(s)%sectorBytes)%sectorBytes)
}

func putByWords(w *disk.Disk, l []api.Run, s string) api.Errno {
	if e := refusesByWords(w, fitByWords(l, w.Len(), len(s))); e != api.OK {
		return e
	}
	all := filled(s)
	for k, i := range eachByWords(l) {
		if e := w.Write(i, all[k*sectorBytes:][:sectorBytes]); e != api.OK {
			return e
		}
	}
	return api.OK
}

func getByWords(w *disk.Disk, l []api.Run, size int) (string, api.Errno) {
	if e := refusesByWords(w, fitByWords(l, w.Len(), size)); e != api.OK {
		return "", e
	}
	var all strings.Builder
	for _, i := range eachByWords(l) {
		s, _ := w.Read(i)
		all.WriteString(s)
	}
	return all.String()[:size], api.OK
}

func copyByWords(w *disk.Disk, from, to []api.Run, size int) api.Errno {
	fit := fitByWords(from, w.Len(), size) && fitByWords(to, w.Len(), size)
	if e := refusesByWords(w, fit && !shareByWords(from, to)); e != api.OK {
		return e
	}
	s, _ := getByWords(w, from, size)
	return putByWords(w, to, s)
}

// text returns n bytes, of which no two sectors are equal; another seed gives other ones throughout. None of them is a zero byte.
func text(seed, n int) string {
	b := make([]byte, n)
	next := uint32(seed)*7919 + 1
	for i := range b {
		next = next*1664525 + 1013904223
		b[i] = byte(1 + next>>8%255)
	}
	return string(b)
}

// loaded returns a disk of so many sectors, of which no two are equal.
func loaded(t *testing.T, sectors int) *disk.Disk {
	t.Helper()
	d, e := disk.Load(text(1000+sectors, sectors*sectorBytes))
	if e != api.OK {
		t.Fatalf("Load of %d sectors: %d", sectors, e)
	}
	return d
}

// two are disks that were given the same: one by the calls, the other one by the document's words.
type two struct{ d, w *disk.Disk }

func twoOf(t *testing.T, sectors int) two {
	t.Helper()
	return two{loaded(t, sectors), loaded(t, sectors)}
}

// both does the same with the one and the other.
func (p two) both(do func(d *disk.Disk)) {
	do(p.d)
	do(p.w)
}

// told is a list as a text, without most of a long one.
func told(l []api.Run) string {
	if len(l) > 20 {
		return fmt.Sprint(l[:20], " of ", len(l))
	}
	return fmt.Sprint(l)
}

// expectErr holds the error of a call.
func expectErr(t *testing.T, what string, e, want api.Errno) {
	t.Helper()
	if e != want {
		t.Errorf("%s: error %d, not %d", what, e, want)
	}
}

// expectSame holds all that can be asked of the one against the other. What is pending, and in which order, is told by nothing but Power.
func expectSame(t *testing.T, what string, p two) {
	t.Helper()
	if p.d.Len() != p.w.Len() || p.d.Waits() != p.w.Waits() || p.d.Ops() != p.w.Ops() || p.d.Down() != p.w.Down() {
		t.Fatalf("%s: %d wait, %d operations, down %v, not %d, %d, %v", what, p.d.Waits(), p.d.Ops(), p.d.Down(), p.w.Waits(), p.w.Ops(), p.w.Down())
	}
	if p.d.Image() != p.w.Image() {
		t.Fatalf("%s: the image is another one", what)
	}
	for i := range p.w.Len() {
		s, e := p.d.Read(i)
		if want, wantE := p.w.Read(i); s != want || e != wantE {
			t.Fatalf("%s: sector %d has %q %d, not %q %d", what, i, s, e, want, wantE)
		}
	}
}

// kept does a call, and holds that the lists that it is passed stay as they are, with what is behind their ends.
func kept(t *testing.T, what string, do func(lists ...[]api.Run), lists ...[]api.Run) {
	t.Helper()
	mark := api.Run{At: -77, Len: -7}
	var given, before [][]api.Run
	for _, l := range lists {
		longer := append(slices.Clone(l), mark, mark)
		given = append(given, longer[:len(l)])
		before = append(before, slices.Clone(longer))
	}
	do(given...)
	for i, l := range given {
		if got := l[:len(before[i])]; !slices.Equal(got, before[i]) {
			t.Errorf("%s: the list %s was changed to %s", what, told(before[i]), told(got))
		}
	}
}

// expectFit holds Fit against the document's words, twice.
func expectFit(t *testing.T, l []api.Run, sectors, size int) {
	t.Helper()
	want := fitByWords(l, sectors, size)
	what := fmt.Sprintf("Fit of %s, %d sectors, %d bytes", told(l), sectors, size)
	kept(t, what, func(lists ...[]api.Run) {
		for range 2 {
			if Fit(lists[0], sectors, size) != want {
				t.Errorf("%s: not %v", what, want)
			}
		}
	}, l)
}

// expectEach holds what Each yields against the document's words, gone through twice.
func expectEach(t *testing.T, l []api.Run) {
	t.Helper()
	want := eachByWords(l)
	what := "Each of " + told(l)
	kept(t, what, func(lists ...[]api.Run) {
		each := Each(lists[0])
		for range 2 {
			if got := yielded(each); !slices.Equal(got, want) {
				t.Errorf("%s: %v, not %v", what, got, want)
			}
		}
	}, l)
}

func yielded(each iter.Seq[int]) []int {
	var l []int
	for i := range each {
		l = append(l, i)
	}
	return l
}

// doPut does a Put, and holds it against the document's words; it returns the error.
func doPut(t *testing.T, p two, l []api.Run, s string) api.Errno {
	t.Helper()
	want := putByWords(p.w, l, s)
	what := fmt.Sprintf("Put of %d bytes in %s", len(s), told(l))
	kept(t, what, func(lists ...[]api.Run) { expectErr(t, what, Put(p.d, lists[0], s), want) }, l)
	expectSame(t, what, p)
	return want
}

// doGet does a Get, twice, and holds it against the document's words; it returns the bytes.
func doGet(t *testing.T, p two, l []api.Run, size int) string {
	t.Helper()
	want, wantE := getByWords(p.w, l, size)
	what := fmt.Sprintf("Get of %d bytes in %s", size, told(l))
	kept(t, what, func(lists ...[]api.Run) {
		for range 2 {
			if s, e := Get(p.d, lists[0], size); s != want || e != wantE {
				t.Errorf("%s: %q %d, not %q %d", what, s, e, want, wantE)
			}
		}
	}, l)
	expectSame(t, what, p)
	return want
}

// doCopy does a Copy, and holds it against the document's words; it returns the error.
func doCopy(t *testing.T, p two, from, to []api.Run, size int) api.Errno {
	t.Helper()
	want := copyByWords(p.w, from, to, size)
	what := fmt.Sprintf("Copy of %d bytes in %s to %s", size, told(from), told(to))
	kept(t, what, func(lists ...[]api.Run) { expectErr(t, what, Copy(p.d, lists[0], lists[1], size), want) }, from, to)
	expectSame(t, what, p)
	return want
}

// anyNumbers returns what makes numbers from 0 on, below what it is asked for; another seed gives other ones.
func anyNumbers(seed uint32) func(below int) int {
	return func(below int) int {
		seed = seed*1664525 + 1013904223
		return int(seed>>8) % below
	}
}

// smallRuns returns all runs of some places and lengths.
func smallRuns(first, n, longest int) []api.Run {
	var l []api.Run
	for at := first; at < first+n; at++ {
		for size := -1; size <= longest; size++ {
			l = append(l, api.Run{At: at, Len: size})
		}
	}
	return l
}

// listsOf returns all lists of up to n of these runs, each at each place.
func listsOf(l []api.Run, n int) [][]api.Run {
	lists := [][]api.Run{nil}
	for from := 0; n > 0; n-- {
		to := len(lists)
		for _, ahead := range lists[from:to] {
			for _, r := range l {
				lists = append(lists, append(slices.Clone(ahead), r))
			}
		}
		from = to
	}
	return lists
}

// edgeRuns returns all runs that begin, and are as long, as the document's edges and those of int let.
func edgeRuns() []api.Run {
	var l []api.Run
	for _, at := range []int{math.MinInt, math.MinInt + 1, -most - 1, -most, -1, 0, 1, most - 2, most - 1, most, most + 1, math.MaxInt - most, math.MaxInt - 1, math.MaxInt} {
		for _, n := range []int{math.MinInt, -1, 0, 1, 2, 3, most - 1, most, most + 1, most + 2, math.MaxInt - most, math.MaxInt - 1, math.MaxInt} {
			l = append(l, api.Run{At: at, Len: n})
		}
	}
	return l
}

// someLists returns lists: of none, valid in any order, that touch, overlap, come twice, have no sector, and begin or end beyond what there is.
func someLists() [][]api.Run {
	return [][]api.Run{
		nil, {}, runs(0, 1), runs(1, 1), runs(0, 2), runs(7, 1, 3, 1), runs(3, 1, 7, 1), runs(5, 2, 1, 3), runs(4, 2, 0, 2, 2, 2), runs(0, 2, 2, 2), runs(2, 2, 0, 2),
		runs(0, 3, 2, 2), runs(2, 2, 0, 3), runs(0, 10, 3, 2), runs(3, 2, 0, 10), runs(5, 1, 5, 1), runs(5, 2, 6, 1), runs(1, 1, 3, 1, 1, 1), runs(0, 4, 0, 2),
		runs(3, 0), runs(3, -1), runs(1, 1, 3, 0), runs(3, 0, 1, 1), runs(1, 1, 5, -1), runs(-1, 1), runs(-1, 2), runs(1, 1, -1, 1), runs(-5, 9),
		runs(0, most), runs(most-1, 1), runs(most-1, 2), runs(most, 1), runs(1, most), runs(1, most-1), runs(most-1, 1, 0, 1), runs(0, most+1),
		runs(math.MaxInt, 1), runs(1, math.MaxInt), runs(math.MaxInt, math.MaxInt), runs(0, 1, math.MaxInt, 2), runs(math.MinInt, 1), runs(math.MinInt, math.MaxInt), runs(0, math.MinInt), runs(2, 1, 1, math.MaxInt),
		alone(0, mostRuns), alone(0, mostRuns+1), alone(3, 100), alone(0, most/2), slices.Repeat(runs(2, 1), mostRuns), append(alone(0, mostRuns), runs(8190, 2)...),
	}
}
