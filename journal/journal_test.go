package journal

import (
	"fmt"
	"math"
	"slices"
	"strings"
	"testing"

	"sheaf/api"
)

// kinds returns all Kinds that there are, and many that there are not; also such as have the byte of one that there is.
func kinds() []api.RecKind {
	return []api.RecKind{1, 2, 3, 4, 5, 6, 0, 7, 8, 255, 256, 257, 258, 259, 260, 261, 262, 1 << 16, 1<<16 + 1, 1<<32 + 1, 1<<32 + 6, -1, -2, -250, -255, -256, math.MinInt, math.MinInt + 4, math.MaxInt}
}

// P13.1: the Kinds have their numbers, and a record of each is valid.
func TestCheckKinds(t *testing.T) {
	for i, r := range eachKind() {
		if r.Kind != api.RecKind(1+i) || !validByWords(r) {
			t.Fatalf("not as it was meant: %s", told(r))
		}
		expectErr(t, told(r), Check(r), api.OK)
		for _, k := range kinds() {
			expectCheck(t, "another Kind", with(r, func(o *api.Rec) { o.Kind = k }))
		}
	}
	for _, k := range kinds() {
		expectCheck(t, "a Kind alone", api.Rec{Kind: k})
		expectCheck(t, "a Kind with an empty list", api.Rec{Kind: k, Runs: []api.Run{}})
	}
	expectErr(t, "nothing", Check(api.Rec{}), api.ErrArg)
}

// P13.1: each field that a Kind uses left out, and each that it does not use filled in.
func TestCheckFields(t *testing.T) {
	ofID := []api.RecKind{api.RBox, api.RMan, api.RNoBox, api.RNoMan}
	ofName := []api.RecKind{api.RName, api.RNoName}
	ofBlob := []api.RecKind{api.RBox, api.RMan, api.RName}
	for _, r := range eachKind() {
		for _, c := range []struct {
			what   string
			change func(o *api.Rec)
			valid  bool
		}{
			{"no ID", func(o *api.Rec) { o.ID = 0 }, !slices.Contains(ofID, r.Kind)},
			{"an ID", func(o *api.Rec) { o.ID = 9 }, slices.Contains(ofID, r.Kind)},
			{"no Name", func(o *api.Rec) { o.Name = "" }, !slices.Contains(ofName, r.Kind)},
			{"a Name", func(o *api.Rec) { o.Name = "x" }, slices.Contains(ofName, r.Kind)},
			{"no Size", func(o *api.Rec) { o.Size = 0 }, !slices.Contains(ofBlob, r.Kind)},
			{"a Size alone", func(o *api.Rec) { o.Size, o.Runs = 1, nil }, false},
			{"no Runs", func(o *api.Rec) { o.Runs = nil }, !slices.Contains(ofBlob, r.Kind)},
			{"Runs alone", func(o *api.Rec) { o.Size, o.Runs = 0, runs(3, 1) }, false},
			{"a run of zeros alone", func(o *api.Rec) { o.Size, o.Runs = 0, runs(0, 0) }, false},
			{"a blob", func(o *api.Rec) { o.Size, o.Runs = 129, runs(3, 2) }, slices.Contains(ofBlob, r.Kind)},
			{"no blob", func(o *api.Rec) { o.Size, o.Runs = 0, nil }, true},
			{"an empty blob", func(o *api.Rec) { o.Size, o.Runs = 0, []api.Run{} }, true},
			{"both keys", func(o *api.Rec) { o.ID, o.Name = 9, "x" }, false},
			{"no key", func(o *api.Rec) { o.ID, o.Name = 0, "" }, false},
			{"the other key", func(o *api.Rec) {
				if o.ID == 0 {
					o.ID, o.Name = 9, ""
				} else {
					o.ID, o.Name = 0, "x"
				}
			}, false},
		} {
			o := with(r, c.change)
			what := fmt.Sprintf("Kind %d, %s", r.Kind, c.what)
			if validByWords(o) != c.valid {
				t.Errorf("%s: not as it was meant", what)
			}
			expectCheck(t, what, o)
		}
	}
}

// P13.1: an ID and a Name at all edges, with each Kind.
func TestCheckKeys(t *testing.T) {
	for _, k := range kinds() {
		for _, id := range []uint32{0, 1, 2, 255, 256, 1 << 16, 1 << 31, mostID - 1, mostID, mostID + 1} {
			expectCheck(t, "an ID", api.Rec{Kind: k, ID: id})
			expectCheck(t, "an ID and a Name", api.Rec{Kind: k, ID: id, Name: "x"})
		}
		for _, n := range []int{0, 1, 2, 47, 48, 49, 50, 255, 256, 257, 304, 1 << 16, 1<<16 + 1} {
			expectCheck(t, "a Name", api.Rec{Kind: k, Name: text(n, n)})
		}
		for _, name := range []string{"\x00", "\xff", strings.Repeat("\x00", 48), strings.Repeat("\x00", 49), strings.Repeat("ä", 24), strings.Repeat("ä", 24) + "x", strings.Repeat("ä", 25), " ", "a/b\n"} {
			expectCheck(t, "a Name", api.Rec{Kind: k, Name: name})
		}
	}
	for id, want := range map[uint32]api.Errno{0: api.ErrArg, 1: api.OK, 1<<32 - 2: api.OK, 1<<32 - 1: api.ErrArg} {
		expectErr(t, fmt.Sprint("RMan with the ID ", id), Check(api.Rec{Kind: api.RMan, ID: id}), want)
		expectErr(t, fmt.Sprint("RNoBox with the ID ", id), Check(api.Rec{Kind: api.RNoBox, ID: id}), want)
	}
	for n, want := range map[int]api.Errno{0: api.ErrArg, 1: api.OK, 48: api.OK, 49: api.ErrArg} {
		expectErr(t, fmt.Sprint("RName with a Name of ", n), Check(api.Rec{Kind: api.RName, Name: text(1, n)}), want)
		expectErr(t, fmt.Sprint("RNoName with a Name of ", n), Check(api.Rec{Kind: api.RNoName, Name: text(1, n)}), want)
	}
}

// P13.1: Sizes at the edges, with one sector less than they need, just as many, and one more.
func TestCheckSizes(t *testing.T) {
	for size, need := range map[int]int{math.MinInt: 0, math.MinInt + 1: 0, -sectorBytes: 0, -1: 0, 0: 0, 1: 1, 2: 1, 127: 1, 128: 1, 129: 2, 255: 2, 256: 2, 257: 3, 2047: 16, 2048: 16, 2049: 17, blobBytes - sectorBytes: most - 1, blobBytes - sectorBytes + 1: most, blobBytes - 1: most, blobBytes: most, blobBytes + 1: most, blobBytes + sectorBytes + 1: most, 1 << 31: most, 1 << 32: 0, 1<<32 + 1: 1, 1<<32 + 300: 3, math.MaxInt - 1: most, math.MaxInt: most} {
		for _, n := range []int{max(need-1, 0), need, need + 1} {
			lists := [][]api.Run{nil}
			if n > 0 {
				lists = [][]api.Run{runs(0, n), runs(most-n, n), runs(n-1, 1, 0, n-1)[:min(n, 2)], runs(1, n)}
			}
			for _, l := range lists {
				want := api.ErrArg
				if size >= 0 && size <= blobBytes && n == need && validByWords(blob(size, l)) {
					want = api.OK
				}
				expectErr(t, fmt.Sprintf("%d bytes in %v", size, l), Check(blob(size, l)), want)
				expectCheck(t, "a Size", blob(size, l))
				expectCheck(t, "a Size", api.Rec{Kind: api.RName, Name: "x", Size: size, Runs: l})
				expectCheck(t, "a Size that is not used", api.Rec{Kind: api.RNoMan, ID: 1, Size: size, Runs: l})
			}
		}
	}
	expectErr(t, "MaxBlob in all sectors", Check(blob(blobBytes, runs(0, most))), api.OK)
	expectErr(t, "MaxBlob in two runs", Check(blob(blobBytes, runs(100, most-100, 0, 100))), api.OK)
}

// P13.1: no run, 16 and 17; runs that touch, overlap, come twice, have no sector, and begin or end beyond what there is.
func TestCheckRuns(t *testing.T) {
	for _, c := range []struct {
		l     []api.Run
		valid bool
	}{
		{nil, true}, {[]api.Run{}, true}, {alone(0, mostRuns), true}, {alone(most-31, mostRuns), true}, {alone(0, mostRuns+1), false}, {alone(5, 300), false}, {slices.Repeat(runs(0, 0), mostRuns+1), false},
		{runs(0, 2, 2, 2), true}, {runs(2, 2, 0, 2), true}, {runs(4, 1, 5, 1, 3, 1), true}, {runs(7, 1, 3, 1), true}, {runs(0, 4096, 4096, 4096), true},
		{runs(0, 3, 2, 2), false}, {runs(2, 2, 0, 3), false}, {runs(0, 10, 3, 2), false}, {runs(3, 2, 0, 10), false}, {runs(0, 4, 0, 2), false}, {runs(0, 4, 2, 2), false}, {runs(0, 2, 2, 2, 1, 2), false}, {runs(1, 1, 3, 1, 5, 1, 3, 1), false},
		{runs(5, 1, 5, 1), false}, {runs(5, 3, 5, 3), false}, {runs(1, 1, 3, 1, 1, 1), false}, {slices.Repeat(runs(2, 1), mostRuns), false}, {append(alone(0, mostRuns-1), runs(28, 1)...), false}, {append(alone(2, mostRuns-1), runs(2, 1)...), false},
		{runs(3, 0), false}, {runs(3, -1), false}, {runs(3, 2, 9, 0), false}, {runs(9, 0, 3, 2), false}, {runs(3, 2, 9, -1), false}, {runs(3, 3, 9, -1), false}, {runs(0, 0), false}, {runs(3, math.MinInt), false}, {runs(3, 1, 0, 0), false},
		{runs(-1, 1), false}, {runs(-1, 2), false}, {runs(3, 1, -1, 1), false}, {runs(-5, 9), false}, {runs(math.MinInt, 1), false}, {runs(math.MinInt, math.MaxInt), false}, {runs(-1, math.MaxInt), false}, {runs(math.MinInt, math.MinInt), false},
		{runs(most-1, 1), true}, {runs(0, most), true}, {runs(1, most-1), true}, {runs(most-2, 2, 0, 1), true}, {runs(most-1, 1, 0, most-1), true},
		{runs(most, 1), false}, {runs(most-1, 2), false}, {runs(1, most), false}, {runs(0, most+1), false}, {runs(0, 1, most-1, 2), false}, {runs(most+1, 1), false}, {runs(1<<16, 1), false}, {runs(0, 1<<16+1), false}, {runs(most, 0), false},
		{runs(math.MaxInt, 1), false}, {runs(1, math.MaxInt), false}, {runs(math.MaxInt, math.MaxInt), false}, {runs(math.MaxInt-1, 1), false}, {runs(0, 1, math.MaxInt, 2), false}, {runs(2, 1, 1, math.MaxInt), false}, {runs(3, math.MaxInt, 3, math.MaxInt), false}, {runs(math.MaxInt, 1, math.MaxInt, 1), false},
	} {
		sectors := 0
		for _, r := range c.l {
			sectors += min(max(r.Len, -1), most+1)
		}
		for _, size := range []int{0, 1, sectors*sectorBytes - 127, sectors * sectorBytes, (sectors+1)*sectorBytes - 127, (sectors - 1) * sectorBytes} {
			expectCheck(t, "runs", blob(size, c.l))
			expectCheck(t, "runs", api.Rec{Kind: api.RMan, ID: 2, Size: size, Runs: c.l})
			expectCheck(t, "runs", api.Rec{Kind: api.RName, Name: "n", Size: size, Runs: c.l})
			expectCheck(t, "runs that are not used", api.Rec{Kind: api.RNoName, Name: "n", Size: size, Runs: c.l})
		}
		want := api.ErrArg
		if c.valid {
			want = api.OK
		}
		if len(c.l) > 0 {
			expectErr(t, fmt.Sprint("runs ", c.l), Check(blob(sectors*sectorBytes, c.l)), want)
		}
	}
}

// P13.1: all lists of up to two runs at the edges and of up to three small ones, with the Sizes that may fit.
func TestCheckAllRuns(t *testing.T) {
	var edge, small []api.Run
	for _, at := range []int{math.MinInt, -1, 0, 1, 2, most - 1, most, math.MaxInt} {
		for _, n := range []int{math.MinInt, -1, 0, 1, 2, most - 1, most, math.MaxInt} {
			edge = append(edge, api.Run{At: at, Len: n})
		}
	}
	for at := -1; at < 4; at++ {
		for n := -1; n < 4; n++ {
			small = append(small, api.Run{At: at, Len: n})
		}
	}
	for _, a := range edge {
		for _, b := range edge {
			for _, size := range []int{1, 128, 129, 384, blobBytes - 128, blobBytes} {
				expectCheck(t, "two at the edges", blob(size, []api.Run{a, b}))
			}
		}
	}
	for _, a := range small {
		for _, b := range small {
			for _, c := range small {
				size := (a.Len + b.Len + c.Len) * sectorBytes
				expectCheck(t, "three small ones", blob(size, []api.Run{a, b, c}))
			}
		}
	}
}

// P13.1: each number of a record at all edges, two of them together.
func TestCheckNumbers(t *testing.T) {
	numbers := numbersAround()
	fields := []func(r *api.Rec, n int){
		func(r *api.Rec, n int) { r.Kind = api.RecKind(n) },
		func(r *api.Rec, n int) { r.ID = uint32(n) },
		func(r *api.Rec, n int) { r.Size = n },
		func(r *api.Rec, n int) { r.Runs[0].At = n },
		func(r *api.Rec, n int) { r.Runs[0].Len = n },
		func(r *api.Rec, n int) { r.Runs[1].At = n },
		func(r *api.Rec, n int) { r.Runs[1].Len = n },
	}
	for i, one := range fields {
		for _, other := range fields[:i+1] {
			for _, n := range numbers {
				for _, m := range numbers {
					r := eachKind()[0]
					one(&r, n)
					other(&r, m)
					expectCheck(t, "two numbers", r)
				}
			}
		}
	}
}

// Rule 1: a list of a great many runs, and a long name, are refused in a moment.
func TestCheckLong(t *testing.T) {
	for _, r := range []api.Rec{blob(300, alone(0, 1<<21)), blob(0, make([]api.Run, 1<<21)), {Kind: api.RName, Name: strings.Repeat("x", 1<<24)}} {
		expectErr(t, "Check", Check(r), api.ErrArg)
		if s, e := Tx(r); s != "" || e != api.ErrArg {
			t.Errorf("Tx: %d bytes, %d", len(s), e)
		}
		if !Same(r, r) || Same(r, blob(300, runs(0, 3))) {
			t.Error("Same of what is long")
		}
	}
}

// changedOnce returns what becomes of a record if one thing of it changes.
func changedOnce(r api.Rec) []api.Rec {
	l := []api.Rec{
		with(r, func(o *api.Rec) { o.Kind++ }),
		with(r, func(o *api.Rec) { o.Kind += 256 }),
		with(r, func(o *api.Rec) { o.ID++ }),
		with(r, func(o *api.Rec) { o.ID ^= 1 << 31 }),
		with(r, func(o *api.Rec) { o.Name += "\x00" }),
		with(r, func(o *api.Rec) { o.Name = "x" + o.Name }),
		with(r, func(o *api.Rec) { o.Size++ }),
		with(r, func(o *api.Rec) { o.Size -= 1 << 32 }),
		with(r, func(o *api.Rec) { o.Runs = append(o.Runs, api.Run{At: 50, Len: 1}) }),
		with(r, func(o *api.Rec) { o.Runs = append(o.Runs, api.Run{}) }),
		with(r, func(o *api.Rec) { o.Runs = append(runs(0, 0), o.Runs...) }),
	}
	if r.Name != "" {
		l = append(l, with(r, func(o *api.Rec) { o.Name = o.Name[1:] }), with(r, func(o *api.Rec) { o.Name = o.Name[:len(o.Name)-1] }))
	}
	for i := range r.Runs {
		l = append(l,
			with(r, func(o *api.Rec) { o.Runs[i].At++ }),
			with(r, func(o *api.Rec) { o.Runs[i].Len-- }),
			with(r, func(o *api.Rec) { o.Runs = slices.Delete(o.Runs, i, i+1) }),
			with(r, func(o *api.Rec) { o.Runs = append(o.Runs, o.Runs[i]) }))
		if i > 0 && r.Runs[i-1] != r.Runs[i] {
			l = append(l, with(r, func(o *api.Rec) { o.Runs[i-1], o.Runs[i] = o.Runs[i], o.Runs[i-1] }))
		}
	}
	return l
}

// expectSame holds Same of two records, either way round.
func expectSame(t *testing.T, what string, a, b api.Rec, want bool) {
	t.Helper()
	kept(t, what, []api.Rec{a, b}, func(l []api.Rec) {
		for range 2 {
			if Same(l[0], l[1]) != want || Same(l[1], l[0]) != want {
				t.Errorf("%s: Same of %s and %s is not %v", what, told(a), told(b), want)
			}
		}
	})
}

// P13.1: Same of records, valid or not, that are equal, and that differ in one field alone.
func TestSame(t *testing.T) {
	all := append(eachKind(), api.Rec{}, api.Rec{Kind: 9, ID: 3, Name: "n", Size: -5, Runs: runs(-1, 0, -1, 0, 1, math.MaxInt)}, blob(2048, alone(3, mostRuns)))
	next := anyNumbers(4)
	for range 50 {
		all = append(all, anyRecord(next))
	}
	for i, r := range all {
		expectSame(t, "itself", r, r, true)
		expectSame(t, "a copy", r, copied(r), true)
		for k, o := range changedOnce(r) {
			expectSame(t, fmt.Sprint("change ", k), r, o, false)
		}
		for k, o := range all {
			expectSame(t, fmt.Sprint(i, " and ", k), r, o, sameByWords(r, o))
		}
	}
}

// P13.1: nil runs and empty ones are the same, runs of zeros are others; the same runs in another order, or divided otherwise, are others.
func TestSameRuns(t *testing.T) {
	spare := runs(4, 4)
	for _, a := range [][]api.Run{nil, {}, spare[:0]} {
		for _, b := range [][]api.Run{nil, {}, spare[:0]} {
			expectSame(t, "no runs", blob(0, a), blob(0, b), true)
		}
		expectSame(t, "a run of zeros", blob(0, a), blob(0, runs(0, 0)), false)
	}
	expectSame(t, "another order", blob(300, runs(20, 1, 10, 2)), blob(300, runs(10, 2, 20, 1)), false)
	expectSame(t, "another order of three", blob(300, runs(1, 1, 2, 1, 3, 1)), blob(300, runs(1, 1, 3, 1, 2, 1)), false)
	expectSame(t, "exchanged At and Len", blob(300, runs(10, 3)), blob(300, runs(3, 10)), false)
	expectSame(t, "another division", blob(300, runs(10, 3)), blob(300, runs(10, 2, 12, 1)), false)
	expectSame(t, "the first of two", blob(300, runs(10, 2, 20, 1)), blob(300, runs(10, 2)), false)
	expectSame(t, "the last of two", blob(300, runs(10, 2, 20, 1)), blob(300, runs(20, 1)), false)
	expectSame(t, "a box and a manifest", api.Rec{Kind: api.RNoBox, ID: 3}, api.Rec{Kind: api.RNoMan, ID: 3}, false)
	expectSame(t, "an ID and a Size", api.Rec{ID: 3}, api.Rec{Size: 3}, false)
}
