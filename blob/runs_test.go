package blob

import (
	"math"
	"slices"
	"testing"

	"sheaf/api"
)

// P12.1: Fit of known lists, with numbers of sectors and of bytes at all edges.
func TestFitKnown(t *testing.T) {
	two := runs(7, 1, 3, 1)
	for _, c := range []struct {
		l             []api.Run
		sectors, size int
		want          bool
	}{
		{nil, 8, 0, true}, {runs(), 0, 0, true}, {[]api.Run{}, most, 0, true}, {nil, 8, 1, false}, {nil, 8, -1, false}, {nil, 8, math.MinInt, false}, {nil, 0, -1, false}, {nil, math.MaxInt, 0, true},
		{two, 8, 128, false}, {two, 8, 129, true}, {two, 8, 255, true}, {two, 8, 256, true}, {two, 8, 257, false}, {two, 8, 0, false}, {two, 8, -1, false}, {two, 8, math.MaxInt, false}, {two, 8, math.MinInt, false},
		{two, 7, 256, false}, {two, 0, 256, false}, {two, -1, 256, false}, {two, math.MinInt, 256, false}, {two, 9, 256, true}, {two, math.MaxInt, 256, true},
		{runs(0, 1), 1, 1, true}, {runs(0, 1), 1, 127, true}, {runs(0, 1), 1, 128, true}, {runs(0, 1), 1, 129, false}, {runs(0, 1), 1, 0, false}, {runs(0, 1), 1, -1, false}, {runs(0, 1), 0, 1, false}, {runs(0, 1), -1, 1, false},
		{runs(0, most), most, blobBytes, true}, {runs(0, most), most, blobBytes - 127, true}, {runs(0, most), most, blobBytes - 128, false}, {runs(0, most), most, blobBytes + 1, false}, {runs(0, most), most - 1, blobBytes, false},
		{runs(0, most), most + 1, blobBytes, true}, {runs(0, most), math.MaxInt, blobBytes, true}, {runs(0, most+1), most + 1, blobBytes + 1, false}, {runs(0, most+1), math.MaxInt, blobBytes + 1, false}, {runs(most, 1), most + 1, 1, false}, {runs(most-1, 1), most + 1, 1, true}, {runs(0, math.MaxInt), math.MaxInt, math.MaxInt, false},
		{runs(4, 3), 7, 384, true}, {runs(4, 3), 6, 384, false}, {runs(math.MaxInt, 1), math.MaxInt, 1, false}, {runs(math.MaxInt, math.MaxInt), math.MaxInt, 1, false}, {runs(1, math.MaxInt), most, 1, false},
		{runs(3, 0), 8, 0, false}, {runs(3, -1), 8, 0, false}, {runs(3, 0, 1, 1), 8, 128, false}, {runs(1, 2, 5, -1), 8, 128, false}, {runs(-1, 1), 8, 128, false}, {runs(-1, 2), 8, 128, false}, {runs(-1, 2), 8, 256, false},
		{runs(4, 2, 0, 2, 2, 2), 6, 768, true}, {runs(0, 2, 2, 2, 4, 2), 6, 641, true}, {runs(0, 3, 2, 2), 8, 640, false}, {runs(0, 3, 2, 2), 8, 512, false}, {runs(5, 1, 5, 1), 8, 256, false}, {runs(5, 1, 5, 1), 8, 128, false}, {runs(0, 8, 3, 1), 8, 1024, false},
		{runs(1, 3), 8, 256, false}, {runs(1, 3), 8, 257, true}, {runs(1, 3), 8, 384, true}, {runs(1, 3), 8, 385, false}, {runs(1, 1, 3, 1, 5, 1), 8, 385, false}, {runs(1, 1, 3, 1), 8, 385, false},
		{alone(0, mostRuns), 31, mostRuns * 128, true}, {alone(0, mostRuns), 30, mostRuns * 128, false}, {alone(0, mostRuns+1), 100, (mostRuns + 1) * 128, false}, {alone(0, mostRuns+1), 100, mostRuns * 128, false}, {alone(0, 1000), most, 128000, false},
	} {
		if Fit(c.l, c.sectors, c.size) != c.want {
			t.Errorf("Fit of %s, %d sectors, %d bytes: not %v", told(c.l), c.sectors, c.size, c.want)
		}
		expectFit(t, c.l, c.sectors, c.size)
	}
}

// edgeNumbers returns the numbers of sectors and of bytes at which something changes.
func edgeNumbers() []int {
	return []int{math.MinInt, math.MinInt + 1, -129, -128, -1, 0, 1, 2, 3, 8, 9, 127, 128, 129, 255, 256, 257, 384, 385, 2048, 2049, most - 1, most, most + 1, blobBytes - 128, blobBytes - 127, blobBytes, blobBytes + 1, 1<<32 + 128, math.MaxInt - 127, math.MaxInt - 1, math.MaxInt}
}

// P12.1: Fit of lists of all kinds, with all numbers of sectors and of bytes.
func TestFitEdges(t *testing.T) {
	for _, l := range append(someLists(), listsOf(edgeRuns(), 1)...) {
		for _, sectors := range []int{math.MinInt, -1, 0, 1, 7, 8, 31, most - 1, most, most + 1, 1 << 32, math.MaxInt} {
			for _, size := range edgeNumbers() {
				if want := fitByWords(l, sectors, size); Fit(l, sectors, size) != want {
					t.Errorf("Fit of %s, %d sectors, %d bytes: not %v", told(l), sectors, size, want)
				}
			}
		}
		expectFit(t, l, most, blobBytes)
	}
}

// P12.1: Fit of all lists of up to two small runs.
func TestFitAll(t *testing.T) {
	for _, l := range listsOf(smallRuns(-1, 5, 3), 2) {
		for _, sectors := range []int{-1, 0, 1, 2, 3, 4} {
			for _, size := range []int{-1, 0, 1, 127, 128, 129, 256, 257, 384, 385, 512, 513} {
				expectFit(t, l, sectors, size)
			}
		}
	}
}

// P12.1: Fit of up to 20 runs, of one sector less than the bytes need, as many, and one more.
func TestFitMany(t *testing.T) {
	next := anyNumbers(12)
	for n := range 21 {
		for range 20 {
			var l []api.Run
			at, total := next(3), 0
			for range n {
				l = append(l, api.Run{At: at, Len: 1 + next(9)})
				total += l[len(l)-1].Len
				at += l[len(l)-1].Len + next(4)
			}
			slices.SortFunc(l, func(a, b api.Run) int { return (a.At*7+3)%11 - (b.At*7+3)%11 })
			for k := -1; k <= 1; k++ {
				for _, size := range []int{(total+k)*128 - 127, (total + k) * 128} {
					want := n <= mostRuns && k == 0 && size >= 0
					if Fit(l, at+1, size) != want {
						t.Errorf("Fit of %s, %d bytes: not %v", told(l), size, want)
					}
					expectFit(t, l, at+k, size)
				}
			}
		}
	}
}

// P12.1: known lists, in any order, and what Each yields of them.
func TestEachKnown(t *testing.T) {
	for _, c := range []struct {
		l    []api.Run
		want []int
	}{
		{nil, nil}, {[]api.Run{}, nil}, {runs(5, 1), []int{5}}, {runs(5, 2, 1, 3), []int{5, 6, 1, 2, 3}}, {runs(1, 3, 5, 2), []int{1, 2, 3, 5, 6}}, {runs(4, 2, 0, 2, 2, 2), []int{4, 5, 0, 1, 2, 3}},
		{runs(0, 2, 2, 2), []int{0, 1, 2, 3}}, {runs(2, 2, 0, 2), []int{2, 3, 0, 1}}, {runs(most-1, 1, 0, 1), []int{most - 1, 0}},
		{runs(1, 1, 3, 0), nil}, {runs(1, 1, 3, -1), nil}, {runs(1, 1, -1, 1), nil}, {runs(1, 1, most, 1), nil}, {runs(1, 1, most-1, 2), nil}, {runs(1, 2, 2, 1), nil}, {runs(1, 1, 1, 1), nil}, {runs(0, 1, math.MaxInt, math.MaxInt), nil}, {runs(0, math.MaxInt), nil},
	} {
		if got := yielded(Each(c.l)); !slices.Equal(got, c.want) {
			t.Errorf("Each of %s: %v, not %v", told(c.l), got, c.want)
		}
		expectEach(t, c.l)
	}
}

// P12.1: Each of lists of all kinds, also of more than 16 runs, and of all lists of up to three small runs.
func TestEach(t *testing.T) {
	for _, l := range slices.Concat(someLists(), listsOf(edgeRuns(), 1), listsOf(smallRuns(-1, 5, 2), 3)) {
		expectEach(t, l)
	}
	var backward []api.Run
	for i := range most {
		backward = append(backward, api.Run{At: most - 1 - i, Len: 1})
	}
	expectEach(t, backward)
	if got := yielded(Each(backward)); len(got) != most || got[0] != most-1 || got[most-1] != 0 {
		t.Errorf("Each of all sectors backward: %d", len(got))
	}
	expectEach(t, append(backward, api.Run{At: 0, Len: 1}))
}

// P12.1: Each that the caller ends at each of the sectors: none is yielded behind that.
func TestEachEnded(t *testing.T) {
	for _, l := range [][]api.Run{runs(5, 1), runs(5, 2, 1, 3), runs(0, 4), runs(6, 1, 4, 1, 2, 1), runs(4, 2, 0, 2, 2, 2)} {
		all := eachByWords(l)
		each := Each(l)
		for n := 1; n <= len(all); n++ {
			var got []int
			each(func(i int) bool {
				got = append(got, i)
				return len(got) < n
			})
			if !slices.Equal(got, all[:n]) {
				t.Errorf("Each of %s, ended at %d: %v", told(l), n, got)
			}
			got = nil
			for i := range each {
				got = append(got, i)
				if len(got) == n {
					break
				}
			}
			if !slices.Equal(got, all[:n]) {
				t.Errorf("Each of %s, left at %d: %v", told(l), n, got)
			}
		}
	}
}

// P12.1: two that go through the same, one within the other.
func TestEachWithin(t *testing.T) {
	each := Each(runs(5, 2, 1, 1))
	var got []int
	for i := range each {
		for k := range each {
			got = append(got, 10*i+k)
		}
	}
	if want := []int{55, 56, 51, 65, 66, 61, 15, 16, 11}; !slices.Equal(got, want) {
		t.Errorf("%v, not %v", got, want)
	}
}

// Rule 4: a list that is changed behind Each, or while its sectors are gone through, changes nothing of them.
func TestEachMemory(t *testing.T) {
	l := runs(5, 2, 1, 3)
	want := eachByWords(l)
	each := Each(l)
	l[1] = api.Run{At: 100, Len: 50}
	if got := yielded(each); !slices.Equal(got, want) {
		t.Errorf("changed behind the call: %v, not %v", got, want)
	}
	l = runs(5, 2, 1, 3)
	var got []int
	for i := range Each(l) {
		got = append(got, i)
		l[0], l[1] = api.Run{At: 9, Len: 9}, api.Run{At: -3, Len: 0}
	}
	if !slices.Equal(got, want) {
		t.Errorf("changed within: %v, not %v", got, want)
	}
	l = runs(5, 2, 6, 3)
	each = Each(l)
	l[1].At = 7
	if got := yielded(each); len(got) != 0 {
		t.Errorf("not valid when it was passed: %v", got)
	}
}

func FuzzRuns(f *testing.F) {
	f.Add(8, 129, 7, 1, 3, 1, 0, 0)
	f.Add(most, blobBytes, 0, most, 0, 1, -1, 1)
	f.Add(math.MaxInt, math.MaxInt, math.MaxInt, math.MaxInt, 1, 1, 2, 1)
	f.Fuzz(func(t *testing.T, sectors, size, a, aLen, b, bLen, c, cLen int) {
		all := runs(a, aLen, b, bLen, c, cLen)
		for n := range 4 {
			expectFit(t, all[:n], sectors, size)
			expectEach(t, all[:n])
		}
	})
}
