package super

import (
	"math"
	"slices"
	"testing"

	"sheaf/api"
)

// P11.1: Need at the edges, and of ordinary numbers.
func TestNeed(t *testing.T) {
	for _, c := range []struct{ size, want int }{
		{0, 0}, {1, 1}, {2, 1}, {127, 1}, {128, 1}, {129, 2}, {255, 2}, {256, 2}, {257, 3}, {300, 3}, {384, 3},
		{blobBytes - 128, most - 1}, {blobBytes - 127, most}, {blobBytes - 1, most}, {blobBytes, most}, {blobBytes + 1, most + 1},
		{-1, 0}, {-127, 0}, {-128, 0}, {-129, 0}, {math.MinInt, 0}, {math.MinInt + 1, 0},
		{math.MaxInt, 1 << 56}, {math.MaxInt - 126, 1 << 56}, {math.MaxInt - 127, 1<<56 - 1}, {math.MaxInt - 128, 1<<56 - 1}, {1 << 62, 1 << 55},
	} {
		if got := Need(c.size); got != c.want || needByWords(c.size).Cmp(sum(got)) != 0 {
			t.Errorf("Need(%d): %d, not %d", c.size, got, c.want)
		}
	}
	for size := -300; size < 5000; size++ {
		if got := Need(size); needByWords(size).Cmp(sum(got)) != 0 {
			t.Errorf("Need(%d): %d", size, got)
		}
	}
}

// P11.1: Slot of the least numbers, the greatest, and ones that no int holds.
func TestSlot(t *testing.T) {
	for seq, want := range map[uint64]int{
		0: 0, 1: 1, 2: 0, 3: 1, 5: 1, 6: 0, 255: 1, 256: 0, 1 << 32: 0, 1<<32 + 1: 1, 1<<63 - 1: 1, 1 << 63: 0, 1<<63 + 1: 1,
		math.MaxUint64 - 1: 0, math.MaxUint64: 1,
	} {
		if got := Slot(seq); got != want {
			t.Errorf("Slot(%d): %d", seq, got)
		}
	}
}

// checked is a superblock, and whether it is valid.
type checked struct {
	what string
	s    api.Super
	ok   bool
}

// checkedNumbers returns superblocks of which one number is at its least, at its greatest, or beyond.
func checkedNumbers() []checked {
	seq := func(n uint64) api.Super { return but(func(s *api.Super) { s.Seq = n }) }
	used := func(n int) api.Super { return but(func(s *api.Super) { s.Used = n }) }
	journal := func(n int) api.Super { return but(func(s *api.Super) { s.Journal = n }) }
	sectors := func(n int) api.Super { return but(func(s *api.Super) { s.Sectors = n }) }
	return []checked{
		{"ordinary", ordinary(), true}, {"nothing", api.Super{}, false}, {"no blob", plain(1, 100, 4), true},
		{"Seq 0", seq(0), false}, {"Seq 1", seq(1), true}, {"Seq 1 << 63", seq(1 << 63), true}, {"the greatest Seq", seq(math.MaxUint64), true}, {"Seq 0 alone", plain(0, 4, 1), false},
		{"3 sectors", plain(1, 3, 1), false}, {"4 sectors", plain(1, 4, 1), true}, {"5 sectors", plain(1, 5, 1), true}, {"8191 sectors", plain(1, 8191, 1), true},
		{"8192 sectors", plain(1, 8192, 1), true}, {"8193 sectors", plain(1, 8193, 1), false}, {"0 sectors", plain(1, 0, 1), false}, {"-1 sectors", plain(1, -1, 1), false},
		{"the least Sectors", sectors(math.MinInt), false}, {"the greatest Sectors", sectors(math.MaxInt), false}, {"Sectors beyond 4 bytes", sectors(1<<32 + 100), false},
		{"21 sectors", sectors(21), true}, {"20 sectors", sectors(20), false}, {"the least Sectors and Journal", plain(1, math.MinInt, math.MinInt), false},
		{"Journal 0", plain(1, 100, 0), false}, {"Journal 1", plain(1, 100, 1), true}, {"Journal 98 of 100", plain(1, 100, 98), true}, {"Journal 99 of 100", plain(1, 100, 99), false},
		{"Journal 100 of 100", plain(1, 100, 100), false}, {"Journal 2 of 4", plain(1, 4, 2), true}, {"Journal 3 of 4", plain(1, 4, 3), false}, {"Journal 8190 of 8192", plain(1, 8192, 8190), true},
		{"Journal 8191 of 8192", plain(1, 8192, 8191), false}, {"Journal -1", plain(1, 100, -1), false}, {"the least Journal", plain(1, 100, math.MinInt), false},
		{"the greatest Journal", plain(1, 100, math.MaxInt), false}, {"the greatest Journal but one", plain(1, 100, math.MaxInt-1), false}, {"Journal beyond 4 bytes", journal(1<<32 + 4), false},
		{"Journal 3", journal(3), true}, {"Journal 2, too few bytes", journal(2), false}, {"Journal 8", journal(8), true}, {"Journal 9, in a run", journal(9), false}, {"the greatest Journal and Sectors", plain(1, math.MaxInt, math.MaxInt), false},
		{"Used -1", used(-1), false}, {"Used 0", used(0), true}, {"Used 1", used(1), true}, {"Used 511", used(511), true}, {"Used 512", used(512), true}, {"Used 513", used(513), false},
		{"the least Used", used(math.MinInt), false}, {"the greatest Used", used(math.MaxInt), false}, {"Used beyond 4 bytes", used(1<<32 + 300), false},
		{"all of the greatest journal", api.Super{Seq: 1, Sectors: 8192, Journal: 8190, Used: 8190 * 128}, true}, {"one more", api.Super{Seq: 1, Sectors: 8192, Journal: 8190, Used: 8190*128 + 1}, false},
		{"all of the least journal", api.Super{Seq: 1, Sectors: 4, Journal: 1, Used: 128}, true}, {"one more than the least", api.Super{Seq: 1, Sectors: 4, Journal: 1, Used: 129}, false},
		{"the least numbers", api.Super{Seq: 0, Sectors: math.MinInt, Journal: math.MinInt, Used: math.MinInt, Size: math.MinInt, Runs: runs(math.MinInt, math.MinInt)}, false},
		{"the greatest numbers", api.Super{Seq: math.MaxUint64, Sectors: math.MaxInt, Journal: math.MaxInt, Used: math.MaxInt, Size: math.MaxInt, Runs: runs(math.MaxInt, math.MaxInt)}, false},
	}
}

// checkedSizes returns superblocks whose blob is at an edge.
func checkedSizes() []checked {
	greatest := func(size int, pairs ...int) api.Super {
		return api.Super{Seq: 1, Sectors: 8192, Journal: 1, Size: size, Runs: runs(pairs...)}
	}
	return []checked{
		{"Size -1", blob(-1), false}, {"Size -128", blob(-128), false}, {"Size -1 in a sector", blob(-1, 6, 1), false}, {"the least Size", blob(math.MinInt), false}, {"the greatest Size", blob(math.MaxInt, 6, 1), false},
		{"Size 0", blob(0), true}, {"Size 0 in a sector", blob(0, 6, 1), false}, {"Size 1", blob(1, 6, 1), true}, {"Size 1 in no run", blob(1), false}, {"Size 1 in two sectors", blob(1, 6, 2), false},
		{"Size 128", blob(128, 6, 1), true}, {"Size 128 in two sectors", blob(128, 6, 2), false}, {"Size 128 in two runs", blob(128, 6, 1, 9, 1), false}, {"Size 129", blob(129, 6, 2), true},
		{"Size 129 in one sector", blob(129, 6, 1), false}, {"Size 129 in two runs", blob(129, 9, 1, 6, 1), true}, {"Size 129 in three sectors", blob(129, 6, 3), false}, {"Size 256", blob(256, 6, 2), true}, {"Size 257", blob(257, 6, 2), false},
		{"Size 1280 in nine sectors", blob(1280, 20, 4, 10, 5), false}, {"Size 1280 in ten", blob(1280, 20, 4, 10, 6), true}, {"Size 1280 in eleven", blob(1280, 20, 4, 10, 7), false}, {"Size beyond 4 bytes", blob(1<<32+1, 6, 1), false},
		{"all sectors behind the journal", greatest(8189*128, 3, 8189), true}, {"one byte less", greatest(8189*128-1, 3, 8189), true}, {"one byte more", greatest(8189*128+1, 3, 8189), false},
		{"the greatest blob", greatest(blobBytes, 3, 8189), false}, {"the greatest blob, beyond the end", greatest(blobBytes, 3, 8192), false}, {"the greatest blob, in the superblocks too", greatest(blobBytes, 0, 8192), false},
		{"one byte beyond the greatest blob", greatest(blobBytes+1, 3, 8193), false}, {"one byte beyond it, in what there is", greatest(blobBytes+1, 3, 8189), false},
	}
}

// checkedRuns returns superblocks with runs of all kinds.
func checkedRuns() []checked {
	many := func(n int) api.Super {
		return but(func(s *api.Super) { s.Size, s.Runs = n*128, alone(6, n) })
	}
	return []checked{
		{"no run", blob(0), true}, {"an empty list", but(func(s *api.Super) { s.Size, s.Runs = 0, []api.Run{} }), true}, {"15 runs", many(15), true}, {"16 runs", many(16), true}, {"17 runs", many(17), false}, {"47 runs", many(47), false},
		{"At 2 + Journal", blob(9, 6, 1), true}, {"At one less", blob(9, 5, 1), false}, {"At one less, and two sectors", blob(200, 5, 2), false}, {"At 0", blob(9, 0, 1), false}, {"At 1", blob(9, 1, 1), false}, {"At 2", blob(9, 2, 1), false}, {"At -1", blob(9, -1, 1), false},
		{"At -1, and 8 sectors", blob(1024, -1, 8), false}, {"the least At", blob(9, math.MinInt, 1), false}, {"the greatest At", blob(9, math.MaxInt, 1), false}, {"At beyond 2 bytes", blob(9, 1<<16+6, 1), false},
		{"no sector", blob(0, 6, 0), false}, {"no sector beside one", blob(9, 8, 1, 6, 0), false}, {"no sector within one", blob(384, 8, 3, 9, 0), false}, {"below 0", blob(0, 6, -1), false}, {"below 0 beside one", blob(9, 20, 2, 10, -1), false}, {"the least Len", blob(0, 6, math.MinInt), false},
		{"the last sector", blob(9, 99, 1), true}, {"behind the last sector", blob(9, 100, 1), false}, {"no sector behind the last", blob(0, 100, 0), false}, {"up to the end", blob(384, 97, 3), true}, {"one beyond the end", blob(512, 97, 4), false}, {"all of them", blob(94*128, 6, 94), true},
		{"all, and one beyond", blob(95*128, 6, 95), false}, {"beyond every int", blob(9, 6, math.MaxInt), false}, {"just not beyond every int", blob(9, 6, math.MaxInt-6), false}, {"far beyond every int", blob(9, math.MaxInt, math.MaxInt), false},
		{"beyond every int, and just so many back", blob(256, 6, math.MaxInt, 7, math.MaxInt, 8, 4), false}, {"from the least up", blob(9, math.MinInt, math.MaxInt), false}, {"Len beyond 2 bytes", blob(9, 6, 1<<16+1), false},
		{"rising", blob(300, 10, 1, 20, 2), true}, {"falling", blob(300, 20, 1, 10, 2), true}, {"in any order", blob(600, 30, 1, 10, 2, 90, 1, 20, 1), true}, {"touching", blob(300, 10, 2, 12, 1), true}, {"touching, falling", blob(300, 12, 1, 10, 2), true},
		{"touching on both sides", blob(512, 10, 1, 12, 1, 11, 1, 13, 1), true}, {"overlapping", blob(512, 10, 2, 11, 2), false}, {"overlapping, falling", blob(512, 11, 2, 10, 2), false}, {"within another", blob(512, 10, 3, 11, 1), false}, {"around another", blob(512, 11, 1, 10, 3), false},
		{"at another's beginning", blob(512, 10, 3, 10, 1), false}, {"at another's end", blob(512, 10, 3, 12, 1), false}, {"twice", blob(256, 10, 1, 10, 1), false}, {"twice, with one between", blob(384, 10, 1, 50, 1, 10, 1), false}, {"twice, and counted once", blob(128, 10, 1, 10, 1), false},
	}
}

func allChecked() []checked {
	return slices.Concat(checkedNumbers(), checkedSizes(), checkedRuns())
}

// P11.1, P11.2, P11.5: superblocks at the edges: whether they are valid, Put of them, and Get of that.
func TestCheck(t *testing.T) {
	for _, c := range allChecked() {
		want := api.ErrArg
		if c.ok {
			want = api.OK
		}
		expectErr(t, c.what, Check(c.s), want)
		expectCheck(t, c.what, c.s)
	}
}

// P11.1, P11.2, P11.5: of sixteen runs each is replaced by each other one, and by one that touches it.
func TestCheckEachRun(t *testing.T) {
	s := but(func(s *api.Super) { s.Size, s.Runs = 16*128, alone(20, 16) })
	for i := range s.Runs {
		for k := range s.Runs {
			o := copied(s)
			o.Runs[i] = s.Runs[k]
			expectCheck(t, "one twice", o)
			o.Runs[i].At++
			expectCheck(t, "one that touches", o)
			o.Runs[i].At--
			o.Runs[i].Len, o.Size = 2, 17*128
			expectCheck(t, "one that is longer", o)
			o.Runs[i] = api.Run{At: 6 + i, Len: k - 1}
			o.Size = (15 + k - 1) * 128
			expectCheck(t, "another length", o)
		}
	}
}

// smallLists returns all lists of up to n runs that begin, and are as long, as a few small numbers let.
func smallLists(n int) [][]api.Run {
	lists := [][]api.Run{nil}
	for from := 0; n > 0; n-- {
		to := len(lists)
		for _, ahead := range lists[from:to] {
			for at := 2; at < 7; at++ {
				for size := -1; size < 4; size++ {
					lists = append(lists, append(slices.Clone(ahead), api.Run{At: at, Len: size}))
				}
			}
		}
		from = to
	}
	return lists
}

// P11.1, P11.2, P11.5: all lists of up to three short runs on small disks.
func TestCheckSmall(t *testing.T) {
	sizes := []int{-1, 0, 1, 128, 129, 256, 257, 384, 385}
	for _, l := range smallLists(1) {
		for sectors := 3; sectors < 8; sectors++ {
			for journal := -1; journal < 6; journal++ {
				for _, size := range sizes {
					for _, used := range []int{-1, 0, journal*128 - 1, journal * 128, journal*128 + 1} {
						expectCheck(t, "a small disk", api.Super{Seq: 1, Sectors: sectors, Journal: journal, Used: used, Size: size, Runs: l})
					}
				}
			}
		}
	}
	for _, l := range smallLists(3) {
		for _, size := range sizes {
			if len(l) < 3 || size > 256 {
				expectCheck(t, "a small disk", api.Super{Seq: 7, Sectors: 7, Journal: 1, Size: size, Runs: l})
			}
		}
	}
}

// P11.1, P11.2, P11.5: each number, and those of a run, at all edges, two of them together.
func TestCheckNumbers(t *testing.T) {
	numbers := numbersAround()
	fields := []func(s *api.Super, n int){
		func(s *api.Super, n int) { s.Seq = uint64(n) },
		func(s *api.Super, n int) { s.Sectors = n },
		func(s *api.Super, n int) { s.Journal = n },
		func(s *api.Super, n int) { s.Used = n },
		func(s *api.Super, n int) { s.Size = n },
		func(s *api.Super, n int) { s.Runs[0].At = n },
		func(s *api.Super, n int) { s.Runs[0].Len = n },
		func(s *api.Super, n int) { s.Runs[1].At = n },
		func(s *api.Super, n int) { s.Runs[1].Len = n },
	}
	for i, one := range fields {
		for _, other := range fields[:i+1] {
			for _, n := range numbers {
				for _, m := range numbers {
					s := ordinary()
					one(&s, n)
					other(&s, m)
					expectCheck(t, "two numbers", s)
				}
			}
		}
	}
}

// P11.1, P11.2, P11.5: superblocks of all kinds, and each of them with one thing changed.
func TestCheckAny(t *testing.T) {
	next := anyNumbers(1)
	for range 3000 {
		s := anySuper(next)
		if !validByWords(s) {
			t.Fatalf("not valid: %s", told(s))
		}
		expectCheck(t, "any", s)
		for _, c := range changedOnce(s) {
			expectCheck(t, c.what, c.s)
		}
	}
}

// Rule 1: a list of a great many runs is refused in a moment; the calls that take any superblock take it.
func TestLongList(t *testing.T) {
	s := but(func(s *api.Super) { s.Sectors, s.Runs = 8192, alone(6, 1<<20) })
	expectErr(t, "Check", Check(s), api.ErrArg)
	if sector, e := Put(s); sector != "" || e != api.ErrArg {
		t.Errorf("Put: %q %d", sector, e)
	}
	n := Next(s)
	if len(n.Runs) != 1<<20 || !Same(s, s) || Same(s, n) || n.Seq != 3 || n.Runs[1<<20-1] != s.Runs[1<<20-1] {
		t.Error("Next or Same of a long list")
	}
}

// changedOnce returns what becomes of a superblock if one thing of it changes.
func changedOnce(s api.Super) []checked {
	l := []checked{
		{"another Seq", with(s, func(o *api.Super) { o.Seq++ }), false},
		{"a Seq far away", with(s, func(o *api.Super) { o.Seq ^= 1 << 63 }), false},
		{"other Sectors", with(s, func(o *api.Super) { o.Sectors++ }), false},
		{"another Journal", with(s, func(o *api.Super) { o.Journal-- }), false},
		{"another Used", with(s, func(o *api.Super) { o.Used++ }), false},
		{"another Size", with(s, func(o *api.Super) { o.Size-- }), false},
		{"one run more", with(s, func(o *api.Super) { o.Runs = append(o.Runs, api.Run{At: 50, Len: 1}) }), false},
		{"a run of zeros more", with(s, func(o *api.Super) { o.Runs = append(o.Runs, api.Run{}) }), false},
		{"a run of zeros ahead", with(s, func(o *api.Super) { o.Runs = append(runs(0, 0), o.Runs...) }), false},
	}
	for i := range s.Runs {
		l = append(l,
			checked{"another At", with(s, func(o *api.Super) { o.Runs[i].At++ }), false},
			checked{"another Len", with(s, func(o *api.Super) { o.Runs[i].Len-- }), false},
			checked{"one run less", with(s, func(o *api.Super) { o.Runs = slices.Delete(o.Runs, i, i+1) }), false})
		if i > 0 && s.Runs[i-1] != s.Runs[i] {
			l = append(l, checked{"another order", with(s, func(o *api.Super) { o.Runs[i-1], o.Runs[i] = o.Runs[i], o.Runs[i-1] }), false})
		}
	}
	return l
}

// with returns a superblock with a change; the one that it was passed stays as it is.
func with(s api.Super, change func(o *api.Super)) api.Super {
	o := copied(s)
	change(&o)
	return o
}

// expectSame holds Same of two superblocks, either way round.
func expectSame(t *testing.T, what string, a, b api.Super, want bool) {
	t.Helper()
	before, other := copied(a), copied(b)
	for range 2 {
		if Same(a, b) != want || Same(b, a) != want {
			t.Errorf("%s: Same of %s and %s: %v, %v", what, told(a), told(b), Same(a, b), Same(b, a))
		}
	}
	if !sameByWords(a, before) || !sameByWords(b, other) {
		t.Errorf("%s: Same changed what it was passed", what)
	}
}

// P11.1: Same of superblocks of all kinds, valid or not, and of such as differ in one thing.
func TestSame(t *testing.T) {
	for _, c := range allChecked() {
		expectSame(t, c.what, c.s, c.s, true)
		expectSame(t, c.what, c.s, copied(c.s), true)
		for _, o := range changedOnce(c.s) {
			expectSame(t, c.what+", "+o.what, c.s, o.s, false)
		}
	}
	for _, a := range allChecked() {
		for _, b := range allChecked() {
			expectSame(t, a.what+" and "+b.what, a.s, b.s, sameByWords(a.s, b.s))
		}
	}
}

// P11.1: nil runs and empty ones are the same, runs that are all zeros are others.
func TestSameEmpty(t *testing.T) {
	none, empty, spare := ordinary(), ordinary(), ordinary()
	none.Runs, empty.Runs, spare.Runs = nil, []api.Run{}, spare.Runs[:0]
	for _, a := range []api.Super{none, empty, spare} {
		for _, b := range []api.Super{none, empty, spare} {
			expectSame(t, "without runs", a, b, true)
		}
		zero := copied(a)
		zero.Runs = runs(0, 0)
		expectSame(t, "a run of zeros", a, zero, false)
	}
	expectSame(t, "exchanged At and Len", blob(300, 10, 2), blob(300, 2, 10), false)
	expectSame(t, "another division", blob(300, 10, 3), blob(300, 10, 2, 12, 1), false)
	expectSame(t, "the first of two", blob(300, 10, 2, 20, 1), blob(300, 10, 2), false)
	expectSame(t, "the last of two", blob(300, 10, 2, 20, 1), blob(300, 20, 1), false)
	expectSame(t, "exchanged Used and Size", with(ordinary(), func(s *api.Super) { s.Used = 200 }), with(ordinary(), func(s *api.Super) { s.Used, s.Size = 300, 200 }), false)
}
