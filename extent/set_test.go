package extent

import (
	"slices"
	"testing"

	"sheaf/api"
)

// P10.2: known lists, among them the document's examples.
func TestPlainKnown(t *testing.T) {
	for _, c := range []struct{ l, want []api.Run }{
		{nil, nil}, {runs(0, 0), nil}, {runs(7, 1), runs(7, 1)}, {runs(4, 2, 0, 2, 2, 2), runs(0, 6)},
		{runs(0, 2, 3, 2), runs(0, 2, 3, 2)}, {runs(3, 2, 0, 2), runs(0, 2, 3, 2)}, {runs(0, 2, 2, 2), runs(0, 4)}, {runs(0, 3, 2, 2), runs(0, 4)},
		{runs(0, 9, 2, 2, 10, 1), runs(0, 9, 10, 1)}, {runs(5, 5, 5, 5), runs(5, 5)}, {runs(5, 1, 5, 3, 5, 2), runs(5, 3)},
		{runs(-1, 1, most, 1), nil}, {runs(-1, 2, most-1, 2), runs(0, 1, most-1, 1)}, {runs(-9, 1<<62), runs(0, most)}, {runs(1<<62, 1<<62, 1<<62, 3), nil},
	} {
		expectRuns(t, "Plain of "+told(c.l), Plain(c.l), c.want)
	}
}

// P10.2: known pairs of lists, among them the document's examples.
func TestPairsKnown(t *testing.T) {
	for _, c := range []struct{ a, b, join, minus, common []api.Run }{
		{nil, nil, nil, nil, nil},
		{runs(3, 2), nil, runs(3, 2), runs(3, 2), nil},
		{nil, runs(3, 2), runs(3, 2), nil, nil},
		{runs(3, 2), runs(3, 2), runs(3, 2), nil, runs(3, 2)},
		{runs(0, 10), runs(3, 2), runs(0, 10), runs(0, 3, 5, 5), runs(3, 2)},
		{runs(3, 2), runs(0, 10), runs(0, 10), nil, runs(3, 2)},
		{runs(0, 10), runs(8, 4, 1, 2), runs(0, 12), runs(0, 1, 3, 5), runs(1, 2, 8, 2)},
		{runs(0, 2), runs(2, 2), runs(0, 4), runs(0, 2), nil},
		{runs(0, 2), runs(3, 2), runs(0, 2, 3, 2), runs(0, 2), nil},
		{runs(0, 4), runs(2, 4), runs(0, 6), runs(0, 2), runs(2, 2)},
		{runs(2, 4), runs(0, 4), runs(0, 6), runs(4, 2), runs(2, 2)},
		{runs(0, 2, 2, 2), runs(1, 2), runs(0, 4), runs(0, 1, 3, 1), runs(1, 2)},
		{runs(0, 1, 2, 1, 4, 1), runs(1, 1, 3, 1), runs(0, 5), runs(0, 1, 2, 1, 4, 1), nil},
		{runs(0, most), runs(0, 1, most-1, 1), runs(0, most), runs(1, most-2), runs(0, 1, most-1, 1)},
		{runs(-5, most+9), runs(-5, 6, most-1, 5), runs(0, most), runs(1, most-2), runs(0, 1, most-1, 1)},
		{runs(-5, 2, most, 4), runs(-4, 1, most+1, 1), nil, nil, nil},
		{runs(5, 0, 1, 1), runs(1, -1, 5, 5), runs(1, 1, 5, 5), runs(1, 1), nil},
	} {
		what := told(c.a) + " and " + told(c.b)
		expectRuns(t, "Join of "+what, Join(c.a, c.b), c.join)
		expectRuns(t, "Minus of "+what, Minus(c.a, c.b), c.minus)
		expectRuns(t, "Common of "+what, Common(c.a, c.b), c.common)
	}
}

// expectPair holds Join, Minus and Common of two lists against the document's words, and against what follows from them.
func expectPair(t *testing.T, a, b []api.Run) {
	t.Helper()
	s, o := setByWords(a), setByWords(b)
	minus, common := Minus(a, b), Common(a, b)
	if !slices.Equal(Join(a, b), setByWords(a, b).list()) {
		t.Errorf("Join of %s and %s: %s", told(a), told(b), told(Join(a, b)))
	}
	if !slices.Equal(minus, s.minus(o).list()) {
		t.Errorf("Minus of %s and %s: %s", told(a), told(b), told(minus))
	}
	if !slices.Equal(common, s.common(o).list()) {
		t.Errorf("Common of %s and %s: %s", told(a), told(b), told(common))
	}
	if !slices.Equal(Join(minus, common), s.list()) || len(Common(minus, common)) != 0 || Count(minus)+Count(common) != s.count() {
		t.Errorf("%s and %s: Minus %s and Common %s don't make up the first list", told(a), told(b), told(minus), told(common))
	}
}

// P10.2, P10.6: all pairs of lists of up to two short runs.
func TestPairsSmall(t *testing.T) {
	for _, first := range []int{-1, most - 3} {
		lists := listsOf(smallRuns(first, 4, 2), 2)
		next := anyNumbers(uint32(first))
		for _, a := range lists {
			for _, b := range lists {
				if len(a)+len(b) <= 2 || next(16) == 0 {
					expectPair(t, a, b)
				}
			}
		}
	}
}

// P10.2, P10.6: pairs of sets of the sectors of a few places, each sector a run of its own.
func TestPairsOfSets(t *testing.T) {
	const places = 6
	sets := make([][]api.Run, 1<<places)
	for bits := range sets {
		for i := range places {
			if bits>>i&1 == 1 {
				sets[bits] = append(sets[bits], api.Run{At: i, Len: 1})
			}
		}
	}
	for _, a := range sets {
		for _, b := range sets {
			expectPair(t, a, b)
		}
	}
}

// P10.2, P10.6: pairs of lists of all kinds.
func TestPairs(t *testing.T) {
	lists := someLists()
	for i, a := range lists {
		for j, b := range lists {
			if len(a)+len(b) < 30 || (i+j)%7 == 0 {
				expectPair(t, a, b)
			}
		}
	}
}

// P10.2, P10.6: a list joined with itself, or made plain once more, is the list; nothing is left of it without itself.
func TestSame(t *testing.T) {
	for _, l := range someLists() {
		want := setByWords(l).list()
		for what, got := range map[string][]api.Run{
			"Plain": Plain(l), "Plain of Plain": Plain(Plain(l)), "Join with itself": Join(l, l), "Join with nothing": Join(l, nil),
			"nothing joined": Join(nil, l), "Common with itself": Common(l, l), "Minus nothing": Minus(l, nil),
			"Common with all": Common(l, runs(0, most)), "all Minus the rest": Minus(runs(0, most), Minus(runs(0, most), l)),
		} {
			expectRuns(t, what+" of "+told(l), got, want)
		}
		if len(Minus(l, l)) != 0 || len(Common(l, nil)) != 0 || len(Common(nil, l)) != 0 || len(Minus(nil, l)) != 0 || len(Minus(l, runs(0, most))) != 0 {
			t.Errorf("%s: something is left of it", told(l))
		}
	}
}

// Rule 4: no call changes a list that it was passed, nor what stands behind it, and no result shares memory with one.
func TestNewMemory(t *testing.T) {
	mark := api.Run{At: 77, Len: 7}
	for _, l := range someLists() {
		in := append(slices.Clone(l), mark, mark)[:len(l)]
		other := append(runs(9, 2, 5, 5, 0, 1), mark, mark)[:3]
		for _, call := range []func() []api.Run{
			func() []api.Run { return Plain(in) },
			func() []api.Run { return Plain(in[:len(in)/2]) },
			func() []api.Run { return Join(in, nil) },
			func() []api.Run { return Join(nil, in) },
			func() []api.Run { return Join(in, other) },
			func() []api.Run { return Minus(in, other) },
			func() []api.Run { return Minus(other, in) },
			func() []api.Run { return Common(in, other) },
			func() []api.Run { return Common(other, in) },
			func() []api.Run { l, _ := Lowest(in, 1); return l },
			func() []api.Run { l, _ := Lowest(in, Count(in)); return l },
			func() []api.Run { May(in, 0, most); Count(in); Has(in, 5); return nil },
		} {
			got := call()
			for i := range got[:cap(got)] {
				got[:cap(got)][i] = api.Run{At: 99, Len: 99}
			}
			if !slices.Equal(in[:len(in)+2], append(slices.Clone(l), mark, mark)) || !slices.Equal(other[:5], append(runs(9, 2, 5, 5, 0, 1), mark, mark)) {
				t.Fatalf("a list was changed: %s, %s", told(in[:len(in)+2]), told(other[:5]))
			}
		}
	}
}

// P10.1 to P10.3: long lists, in no more than a moment.
func TestLong(t *testing.T) {
	var l []api.Run
	for i := range 400000 {
		l = append(l, api.Run{At: i * 7919 % 300000 * 2, Len: 1})
	}
	if n := Count(l); n != most/2 {
		t.Errorf("Count: %d", n)
	}
	if May(l, 0, 600000) || !May(l[:300000], 0, 600000) || !Has(l, 8190) || Has(l, 8191) {
		t.Error("May or Has")
	}
	if got := Minus(runs(0, most), l); len(got) != most/2 || len(Common(got, l)) != 0 || !slices.Equal(Join(got, l), runs(0, most)) {
		t.Errorf("Minus: %s", told(got))
	}
}

func FuzzPairs(f *testing.F) {
	f.Add(0, 10, 8, 4, 1, 2)
	f.Add(-1, 1, 0, -1, 1<<62, 1<<62)
	f.Fuzz(func(t *testing.T, at, n, at2, n2, at3, n3 int) {
		l := runs(at, n, at2, n2, at3, n3)
		expectMay(t, l, 0, most)
		expectMay(t, l[1:], at, n)
		s := expectSectors(t, l)
		for _, k := range []int{0, 1, at, n2, Count(l), Count(l) + 1} {
			expectLowest(t, l, s, k)
		}
		expectPair(t, l, l[2:])
		expectPair(t, l[:1], l[1:])
		expectPair(t, l[1:], l[:2])
	})
}
