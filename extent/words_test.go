package extent

import (
	"fmt"
	"math"
	"math/big"
	"slices"
	"testing"

	"sheaf/api"
)

// most and mostRuns are a disk's sectors, and the runs of a blob, as the document writes them.
const (
	most     = 8192
	mostRuns = 16
)

// sectorSet is which sectors there are.
type sectorSet [most]bool

// runs returns a list by pairs of At and Len.
func runs(pairs ...int) []api.Run {
	var l []api.Run
	for i := 0; i < len(pairs); i += 2 {
		l = append(l, api.Run{At: pairs[i], Len: pairs[i+1]})
	}
	return l
}

// endByWords is the end of a run, as an integer without bounds.
func endByWords(r api.Run) *big.Int {
	return new(big.Int).Add(big.NewInt(int64(r.At)), big.NewInt(int64(r.Len)))
}

// setByWords returns the sectors of lists.
func setByWords(lists ...[]api.Run) *sectorSet {
	s := &sectorSet{}
	for _, r := range slices.Concat(lists...) {
		to := endByWords(r)
		if to.Cmp(big.NewInt(most)) > 0 {
			to.SetInt64(most)
		}
		for i := max(r.At, 0); r.Len >= 1 && to.Cmp(big.NewInt(0)) > 0 && i < int(to.Int64()); i++ {
			s[i] = true
		}
	}
	return s
}

// list returns the sectors of a set as a plain list: each run from a sector behind none, up to the next one that is not there.
func (s *sectorSet) list() []api.Run {
	var l []api.Run
	for i, there := range s {
		if there && (i == 0 || !s[i-1]) {
			l = append(l, api.Run{At: i})
		}
		if there {
			l[len(l)-1].Len++
		}
	}
	return l
}

func (s *sectorSet) count() int {
	n := 0
	for _, there := range s {
		if there {
			n++
		}
	}
	return n
}

// both returns the sectors of which ok holds, told whether they are in s and in o.
func (s *sectorSet) both(o *sectorSet, ok func(one, other bool) bool) *sectorSet {
	r := &sectorSet{}
	for i := range s {
		r[i] = ok(s[i], o[i])
	}
	return r
}

func (s *sectorSet) minus(o *sectorSet) *sectorSet {
	return s.both(o, func(one, other bool) bool { return one && !other })
}

func (s *sectorSet) common(o *sectorSet) *sectorSet {
	return s.both(o, func(one, other bool) bool { return one && other })
}

// lowest returns what Lowest is to return of a list with these sectors.
func (s *sectorSet) lowest(n int) ([]api.Run, api.Errno) {
	if n < 0 {
		return nil, api.ErrArg
	}
	if s.count() < n {
		return nil, api.ErrFull
	}
	low := &sectorSet{}
	for i, there := range s {
		if there && n > 0 {
			low[i] = true
			n--
		}
	}
	if l := low.list(); len(l) <= mostRuns {
		return l, api.OK
	}
	return nil, api.ErrFull
}

func validByWords(l []api.Run, from, sectors int) bool {
	for _, r := range l {
		if r.At < from || r.Len < 1 || endByWords(r).Cmp(big.NewInt(int64(sectors))) > 0 {
			return false
		}
	}
	// No end is above a number of sectors, which is an int.
	for i, r := range l {
		for _, o := range l[:i] {
			if r.At < o.At+o.Len && o.At < r.At+r.Len {
				return false
			}
		}
	}
	return true
}

// anyNumbers returns what makes numbers from 0 on, below what it is asked for; another seed gives other ones.
func anyNumbers(seed uint32) func(below int) int {
	return func(below int) int {
		seed = seed*1664525 + 1013904223
		return int(seed>>8) % below
	}
}

// edgeRuns returns all runs that begin, and are as long, as the document's edges and those of int let.
func edgeRuns() []api.Run {
	var l []api.Run
	for _, at := range []int{math.MinInt, math.MinInt + 1, math.MinInt + 2, -most - 1, -most, -1, 0, 1, most - 2, most - 1, most, most + 1, math.MaxInt - most, math.MaxInt - 1, math.MaxInt} {
		for _, n := range []int{math.MinInt, math.MinInt + 1, -1, 0, 1, 2, 3, most - 1, most, most + 1, most + 2, math.MaxInt - most, math.MaxInt - 1, math.MaxInt} {
			l = append(l, api.Run{At: at, Len: n})
		}
	}
	return l
}

// smallRuns returns all runs of some places and lengths, with what lies just beyond a disk's first sectors, or its last.
func smallRuns(first, n, longest int) []api.Run {
	var l []api.Run
	for at := first; at < first+n; at++ {
		for size := -1; size <= longest; size++ {
			l = append(l, api.Run{At: at, Len: size})
		}
	}
	return l
}

// listsOf returns all lists of up to n of these runs, each at each place.
func listsOf(l []api.Run, n int) [][]api.Run {
	lists := [][]api.Run{nil}
	for from := 0; n > 0; n-- {
		to := len(lists)
		for _, ahead := range lists[from:to] {
			for _, r := range l {
				lists = append(lists, append(slices.Clone(ahead), r))
			}
		}
		from = to
	}
	return lists
}

// anyList returns a list of n runs below a place, among them some of no sector, and some that begin below 0 or end beyond a disk.
func anyList(n, below int, next func(int) int) []api.Run {
	var l []api.Run
	for range n {
		r := api.Run{At: next(below+4) - 2, Len: next(7) - 1}
		if next(50) == 0 {
			r.Len = math.MaxInt
		}
		if next(5) == 0 {
			r.At += most - below
		}
		l = append(l, r)
	}
	return l
}

// someLists returns lists: empty, of one run, in order and not, that touch, overlap, lie in each other, come twice, at the edges, and ordinary ones.
func someLists() [][]api.Run {
	l := [][]api.Run{
		nil, {}, runs(0, 1), runs(0, most), runs(4000, 1), runs(most-1, 1), runs(-1, 1), runs(most, 1), runs(0, 0), runs(5, -3),
		runs(4, 2, 0, 2, 2, 2), runs(0, 2, 2, 2), runs(2, 2, 0, 2), runs(0, 2, 3, 2), runs(3, 2, 0, 2), runs(0, 4, 2, 4), runs(2, 4, 0, 4),
		runs(0, 10, 3, 2), runs(3, 2, 0, 10), runs(0, 10, 0, 3), runs(0, 3, 0, 10), runs(0, 10, 7, 3), runs(7, 3, 0, 10), runs(5, 5, 5, 5),
		runs(0, 10, 2, 1, 11, 1), runs(0, 10, 2, 1, 10, 1), runs(11, 1, 2, 1, 0, 10), runs(1, 1, 3, 1, 5, 1, 2, 1), runs(1, 9, 3, 0, 5, -1, 20, 1),
		runs(-5, 6), runs(-5, 5), runs(-5, 4), runs(-5, math.MaxInt), runs(most-2, 10), runs(most-1, math.MaxInt), runs(1, math.MaxInt),
		runs(math.MinInt, math.MaxInt), runs(math.MinInt+1, math.MaxInt), runs(math.MinInt+2, math.MaxInt), runs(math.MaxInt, math.MaxInt), runs(0, math.MinInt),
		runs(most-2, math.MaxInt, -2, 5, 3, 1, 9, 0, math.MaxInt, 1), runs(math.MaxInt, 1, math.MinInt, 1, 7, 7), runs(0, most, 0, most), runs(-1, most+2, 50, 2),
	}
	for _, n := range []int{15, 16, 17, 18, 40, 4096} {
		var alone, back, touching []api.Run
		for i := range n {
			alone = append(alone, api.Run{At: 2 * i, Len: 1})
			touching = append(touching, api.Run{At: 2 * i, Len: 2})
			back = append(back, api.Run{At: most - 1 - 2*i, Len: 1})
		}
		l = append(l, alone, back, touching)
	}
	next := anyNumbers(1)
	for n := range 30 {
		l = append(l, anyList(n%10, 12, next), anyList(n, 100, next), anyList(10*n, 2000, next))
	}
	return l
}

// told is a list as a text, without most of a long one.
func told(l []api.Run) string {
	if len(l) > 20 {
		return fmt.Sprint(l[:20]) + fmt.Sprintf(" and %d more", len(l)-20)
	}
	return fmt.Sprint(l)
}

// expectRuns holds a list against the one that is wanted.
func expectRuns(t *testing.T, what string, got, want []api.Run) {
	t.Helper()
	if !slices.Equal(got, want) {
		t.Errorf("%s: %s, not %s", what, told(got), told(want))
	}
}

// expectErr holds the error of a call.
func expectErr(t *testing.T, what string, e, want api.Errno) {
	t.Helper()
	if e != want {
		t.Errorf("%s: error %d, not %d", what, e, want)
	}
}
