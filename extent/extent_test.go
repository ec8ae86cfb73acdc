package extent

import (
	"fmt"
	"math"
	"slices"
	"testing"

	"sheaf/api"
)

// expectMay holds May against the document's words.
func expectMay(t *testing.T, l []api.Run, from, sectors int) {
	t.Helper()
	if got := May(l, from, sectors); got != validByWords(l, from, sectors) {
		t.Errorf("May(%s, %d, %d): %v", told(l), from, sectors, got)
	}
}

// P10.1: lists that are valid, and lists that one thing alone keeps from it.
func TestMay(t *testing.T) {
	for _, c := range []struct {
		l             []api.Run
		from, sectors int
		want          bool
	}{
		{nil, 0, 0, true}, {nil, 5, 4, true}, {nil, -1, -2, true}, {[]api.Run{}, 0, most, true},
		{nil, math.MaxInt, math.MinInt, true}, {nil, math.MinInt, math.MaxInt, true},
		{runs(0, 1), 0, 0, false}, {runs(0, 1), 0, 1, true}, {runs(0, 2), 0, 1, false}, {runs(0, 0), 0, 1, false}, {runs(0, -1), 0, 1, false},
		{runs(3, 1), 3, 4, true}, {runs(2, 1), 3, 4, false}, {runs(2, 2), 3, 4, false}, {runs(3, 2), 3, 4, false}, {runs(3, 1), 4, 3, false}, {runs(3, 1), 5, 4, false},
		{runs(0, most), 0, most, true}, {runs(0, most+1), 0, most, false}, {runs(0, most+1), 0, most + 1, true}, {runs(1, most), 0, most, false},
		{runs(most-1, 1), 0, most, true}, {runs(most-1, 2), 0, most, false}, {runs(most, 1), 0, most, false}, {runs(-1, 1), 0, most, false}, {runs(-1, 2), -1, most, true},
		{runs(5, 1, 3, 2), 3, 6, true}, {runs(3, 2, 5, 1), 3, 6, true}, {runs(5, 1, 3, 3), 3, 6, false}, {runs(3, 3, 5, 1), 3, 6, false},
		{runs(4, 1, 4, 1), 0, 9, false}, {runs(0, 9, 4, 1), 0, 9, false}, {runs(4, 1, 0, 9), 0, 9, false}, {runs(0, 9, 8, 1), 0, 9, false}, {runs(0, 9, 0, 1), 0, 9, false},
		{runs(6, 1, 0, 5, 4, 1, 8, 1), 0, 9, false}, {runs(6, 1, 0, 4, 4, 1, 8, 1), 0, 9, true}, {runs(6, 1, 0, 4, 4, 0, 8, 1), 0, 9, false},
		{runs(math.MaxInt-1, 1), 0, math.MaxInt, true}, {runs(math.MaxInt, 1), 0, math.MaxInt, false}, {runs(math.MaxInt-1, 2), 0, math.MaxInt, false},
		{runs(0, math.MaxInt), 0, math.MaxInt, true}, {runs(1, math.MaxInt), 0, math.MaxInt, false}, {runs(1, math.MaxInt), 0, most, false}, {runs(math.MaxInt, math.MaxInt), 0, most, false},
		{runs(math.MinInt, 1), math.MinInt, 0, true}, {runs(math.MinInt, math.MaxInt), math.MinInt, -1, true}, {runs(math.MinInt, math.MaxInt), math.MinInt, -2, false},
		{runs(math.MinInt, 1), math.MinInt + 1, 0, false}, {runs(math.MinInt, 1, math.MaxInt-1, 1), math.MinInt, math.MaxInt, true}, {runs(0, math.MinInt), 0, most, false},
	} {
		if got := May(c.l, c.from, c.sectors); got != c.want || got != validByWords(c.l, c.from, c.sectors) {
			t.Errorf("May(%s, %d, %d): %v", told(c.l), c.from, c.sectors, got)
		}
	}
}

// P10.1: all runs at the edges, with first sectors and numbers of every kind.
func TestMayEdges(t *testing.T) {
	numbers := []int{math.MinInt, math.MinInt + 1, -most, -1, 0, 1, 2, most - 2, most - 1, most, most + 1, math.MaxInt - 1, math.MaxInt}
	for _, from := range numbers {
		for _, sectors := range numbers {
			for _, l := range listsOf(edgeRuns(), 1) {
				expectMay(t, l, from, sectors)
			}
		}
	}
	for _, l := range listsOf(edgeRuns(), 2) {
		expectMay(t, l, 0, most)
		expectMay(t, l, math.MinInt, math.MaxInt)
	}
}

// P10.1: all lists of up to three short runs, and long ones.
func TestMayLists(t *testing.T) {
	for _, l := range listsOf(smallRuns(-1, 5, 2), 3) {
		expectMay(t, l, 0, 4)
		expectMay(t, l, 1, 3)
		expectMay(t, l, -1, 5)
		expectMay(t, l, 3, 3)
	}
	for _, l := range someLists() {
		expectMay(t, l, 0, most)
		expectMay(t, l, 1, most)
		expectMay(t, l, 0, most-1)
		expectMay(t, Plain(l), 0, most)
	}
}

// expectSectors holds what Plain, Count and Has return of a list against the document's words.
func expectSectors(t *testing.T, l []api.Run) *sectorSet {
	t.Helper()
	s := setByWords(l)
	expectRuns(t, "Plain of "+told(l), Plain(l), s.list())
	if n := Count(l); n != s.count() {
		t.Errorf("Count(%s): %d, not %d", told(l), n, s.count())
	}
	for _, i := range []int{math.MinInt, -most, -1, 0, 1, 2, 3, most - 2, most - 1, most, most + 1, math.MaxInt} {
		if got, want := Has(l, i), i >= 0 && i < most && s[i]; got != want {
			t.Errorf("Has(%s, %d): %v", told(l), i, got)
		}
	}
	return s
}

// P10.1, P10.2: runs at all edges, alone and two together.
func TestSectorsEdges(t *testing.T) {
	for _, l := range listsOf(edgeRuns(), 1) {
		expectSectors(t, l)
	}
	next := anyNumbers(7)
	for _, l := range listsOf(edgeRuns(), 2) {
		if next(8) == 0 {
			expectSectors(t, l)
		}
	}
}

// P10.1, P10.2: all lists of up to three short runs, at a disk's first sectors and at its last.
func TestSectorsSmall(t *testing.T) {
	for _, first := range []int{-1, most - 3} {
		for _, l := range listsOf(smallRuns(first, 5, 3), 3) {
			expectSectors(t, l)
		}
	}
}

// P10.1: Has of every sector, at the edges of runs and elsewhere; Count of what comes more than once.
func TestCountHas(t *testing.T) {
	for _, l := range someLists() {
		s := expectSectors(t, l)
		for i := -3; i < most+3; i++ {
			if len(l) > 100 && i%97 > 1 {
				continue
			}
			if got, want := Has(l, i), i >= 0 && i < most && s[i]; got != want {
				t.Errorf("Has(%s, %d): %v", told(l), i, got)
			}
		}
		if n := Count(append(slices.Clone(l), l...)); n != s.count() {
			t.Errorf("Count of %s twice: %d, not %d", told(l), n, s.count())
		}
	}
	if Has(nil, 0) || Has(runs(0, most), -1) || Has(runs(-9, math.MaxInt), -1) || Has(runs(0, math.MaxInt), most) || !Has(runs(4, 2), 5) || Has(runs(4, 2), 6) || Has(runs(4, 2), 3) {
		t.Error("Has")
	}
	if Count(nil) != 0 || Count(runs(4, 2, 5, 2)) != 3 || Count(runs(math.MinInt, math.MaxInt, 0, math.MaxInt)) != most {
		t.Error("Count")
	}
}

// expectLowest holds Lowest against the document's words.
func expectLowest(t *testing.T, l []api.Run, s *sectorSet, n int) {
	t.Helper()
	got, e := Lowest(l, n)
	want, wantE := s.lowest(n)
	if !slices.Equal(got, want) || e != wantE {
		t.Errorf("Lowest(%s, %d): %s %d, not %s %d", told(l), n, told(got), e, told(want), wantE)
	}
}

// P10.3: of all lists: nothing, some sectors, all of them, one more, and numbers that no list has.
func TestLowest(t *testing.T) {
	for _, l := range someLists() {
		s := setByWords(l)
		all := s.count()
		for _, n := range []int{math.MinInt, -1, 0, 1, 2, 3, 15, 16, 17, 18, 31, 32, 33, 34, 39, 40, 41, all / 2, all - 1, all, all + 1, most, most + 1, math.MaxInt} {
			expectLowest(t, l, s, n)
		}
	}
	for _, l := range listsOf(smallRuns(-1, 4, 3), 2) {
		s := setByWords(l)
		for n := -1; n < 8; n++ {
			expectLowest(t, l, s, n)
		}
	}
}

// P10.3: sixteen runs, seventeen, one that is cut in two, and which error comes first.
func TestLowestKnown(t *testing.T) {
	var many []api.Run
	for i := range 17 {
		many = append(many, api.Run{At: 3 * (16 - i), Len: 2})
	}
	for _, c := range []struct {
		l    []api.Run
		n    int
		want []api.Run
		e    api.Errno
	}{
		{nil, 0, nil, api.OK}, {nil, 1, nil, api.ErrFull}, {nil, -1, nil, api.ErrArg}, {nil, math.MinInt, nil, api.ErrArg}, {nil, math.MaxInt, nil, api.ErrFull},
		{runs(5, 4), 0, nil, api.OK}, {runs(5, 4), 1, runs(5, 1), api.OK}, {runs(5, 4), 3, runs(5, 3), api.OK}, {runs(5, 4), 4, runs(5, 4), api.OK}, {runs(5, 4), 5, nil, api.ErrFull},
		{runs(9, 2, 5, 2), 3, runs(5, 2, 9, 1), api.OK}, {runs(7, 2, 5, 2), 3, runs(5, 3), api.OK}, {runs(5, 2, 5, 2), 3, nil, api.ErrFull}, {runs(6, 4, 5, 4), 5, runs(5, 5), api.OK},
		{runs(-3, 5, most-1, 9), 3, runs(0, 2, most-1, 1), api.OK}, {runs(-3, 5, most-1, 9), 4, nil, api.ErrFull}, {runs(0, most), most, runs(0, most), api.OK}, {runs(0, math.MaxInt), most + 1, nil, api.ErrFull},
		{many, 33, nil, api.ErrFull}, {many, 34, nil, api.ErrFull}, {many, 35, nil, api.ErrFull}, {many, -1, nil, api.ErrArg}, {many, 0, nil, api.OK}, {many, 2, runs(0, 2), api.OK}, {many, 3, runs(0, 2, 3, 1), api.OK},
		{append(runs(50, 1), many...), 35, nil, api.ErrFull},
		{append(runs(47, 1), many...), 34, append(setByWords(many[2:]).list(), api.Run{At: 45, Len: 4}), api.OK},
		{append(runs(2, 1), many...), 34, append(append(runs(0, 5), setByWords(many[1:15]).list()...), api.Run{At: 48, Len: 1}), api.OK},
	} {
		got, e := Lowest(c.l, c.n)
		expectRuns(t, fmt.Sprintf("Lowest(%s, %d)", told(c.l), c.n), got, c.want)
		expectErr(t, fmt.Sprintf("Lowest(%s, %d)", told(c.l), c.n), e, c.e)
		expectLowest(t, c.l, setByWords(c.l), c.n)
	}
	if l, e := Lowest(many, 32); len(l) != mostRuns || Count(l) != 32 || e != api.OK {
		t.Errorf("Lowest of sixteen runs: %s %d", told(l), e)
	}
	if l, e := Lowest(many, 31); len(l) != mostRuns || l[15] != (api.Run{At: 45, Len: 1}) || e != api.OK {
		t.Errorf("Lowest of sixteen runs, the last one cut in two: %s %d", told(l), e)
	}
}
