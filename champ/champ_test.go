package champ

import (
	"math"
	"slices"
	"strconv"
	"testing"

	"sheaf/api"
)

// mosts are numbers of champions below, at and above all bounds.
var mosts = []int{math.MinInt, math.MinInt + 1, math.MinInt32, -64, -1, 0, 1, 2, 62, 63, 64, 65, 66, 128, 1 << 32, 1<<32 + 1, math.MaxInt - 1, math.MaxInt}

// P18.1, P18.2, P18.3: the chapter's example.
func TestExample(t *testing.T) {
	c := tableOf(t, "a:1,2 b:2 c:3")
	expectList(t, "for most 1", c.expectChoose(t, 1), []uint32{2})
	expectList(t, "for most 9", c.expectChoose(t, 9), []uint32{2, 3})
	c.expectAll(t)
}

// P18.1, P18.2: no hook, one, one given twice, some in any order, the zero hook; lists that are nil, empty, of one manifest, of one given several times, of many. What is chosen is known without any computation.
func TestChoose(t *testing.T) {
	for _, k := range []struct {
		table string
		want  []uint32
	}{
		{"", nil}, {"a", nil}, {"a:", nil}, {"a a: b", nil}, {"0", nil}, {"0:", nil},
		{"a:7", []uint32{7}}, {"a:7,7,7", []uint32{7}}, {"a:7 a", []uint32{7}}, {"a a:7 a", []uint32{7}}, {"0:7", []uint32{7}}, {"Z:7", []uint32{7}},
		{"a:0", []uint32{0}}, {"a:4294967295", []uint32{highest}}, {"a:0,4294967295", []uint32{highest}}, {"a:0 b:0,4294967295", []uint32{0}}, {"a:0 b:4294967295", []uint32{highest, 0}},
		// Of several with the same score the one with the greatest ID, as the first one and behind others.
		{"a:1,2,3", []uint32{3}}, {"a:3,2,1", []uint32{3}}, {"a:2,3,1", []uint32{3}}, {"a:1 b:2 c:3", []uint32{3, 2, 1}}, {"a:3 b:2 c:1", []uint32{3, 2, 1}},
		{"a:1,2 b:1,2 c:3,4 d:5", []uint32{2, 5, 4}}, {"a:2147483647 b:2147483648", []uint32{2147483648, 2147483647}},
		// More hooks count more than a greater ID; duplicates in a list, and hooks given again, count nothing.
		{"a:1 b:1 c:2", []uint32{1, 2}}, {"a:1 b:1 c:2,2,2", []uint32{1, 2}}, {"a:1 b:1 c:2 c c", []uint32{1, 2}}, {"a:0 b:0 c:4294967295", []uint32{0, highest}},
		// What a champion covers counts no more: the score of 3 falls from 2 to 1, that of 2 to 0.
		{"a:1,2 b:1,2 c:1,3 d:3", []uint32{1, 3}}, {"a:1,2 b:1,2 c:1,3 d:3 e:4", []uint32{1, 4, 3}}, {"a:9,1 b:9,2 c:9,3 d:3,4", []uint32{9, 4}},
		{"a:9,8 b:9,8 c:9,7 d:7 e:6 f:6", []uint32{9, 6, 7}}, {"a:5,6 b:5,6", []uint32{6}},
		// All lists have the same manifests, or none in common.
		{"a:1,2,3 b:3,2,1 c:2,1,3", []uint32{3}}, {"a:1,2 b:3,4 c:5,6", []uint32{6, 4, 2}},
		// Hooks in any order, some of them without manifests.
		{"c:3 0:4 A:3 b a: b", []uint32{3, 4}}, {"A:3 b a: c:3 0:4", []uint32{3, 4}},
	} {
		c := tableOf(t, k.table)
		for _, most := range mosts {
			want := k.want
			if most < 1 {
				want = nil
			} else if most < len(want) {
				want = want[:most]
			}
			expectList(t, "Choose of "+strconv.Itoa(most)+" in "+k.table, c.expectChoose(t, most), want)
		}
		c.expectAll(t)
	}
}

// numbered returns so many hooks, the last ones first, each with what list returns for its number.
func numbered(n int, list func(i int) []uint32) table {
	c := table{lists: map[api.Fp][]uint32{}}
	for i := n - 1; i >= 0; i-- {
		h := api.Fp{1: byte(i >> 16), 2: byte(i >> 8), 30: byte(i)}
		c.hooks = append(c.hooks, h)
		c.lists[h] = list(i)
	}
	return c
}

// P18.2: a most below, at and above the champions there are, and MaxChamps, where there are fewer, as many and more.
func TestMost(t *testing.T) {
	for _, n := range []int{0, 1, 2, 62, 63, 64, 65, 66, 130} {
		c := numbered(n, func(i int) []uint32 { return []uint32{uint32(i), uint32(i)} })
		for _, most := range append([]int{n - 1, n, n + 1}, mosts...) {
			l := c.expectChoose(t, most)
			expectNumber(t, "champions", len(l), min(n, maxChamps, max(most, 0)))
			for i, man := range l {
				expectNumber(t, "champion", int(man), n-1-i)
			}
		}
	}
}

// P18.2, P18.4: where the limit leaves hooks without a champion, and where the last champion covers all.
func TestLastChampion(t *testing.T) {
	for _, n := range []int{maxChamps - 1, maxChamps, maxChamps + 1} {
		c := numbered(2*n, func(i int) []uint32 { return []uint32{uint32(i / 2), 1000 + uint32(i)} })
		l := c.expectChoose(t, math.MaxInt)
		expectNumber(t, "champions", len(l), min(n, maxChamps))
		expectNumber(t, "hooks without one", len(c.open(l)), max(0, 2*(n-maxChamps)))
		c.expectCover(t, l...)
	}
}

// P18.1: the score of a manifest that no list has, that one has, that all have, of 0 and of the greatest.
func TestScore(t *testing.T) {
	for _, k := range []struct {
		table string
		man   uint32
		want  int
	}{
		{"", 0, 0}, {"", 7, 0}, {"a", 0, 0}, {"a: 0", 0, 0}, {"a:1 b:2", 0, 0}, {"a:1 b:2", 3, 0}, {"a:1 b:2", highest, 0},
		{"a:1 b:2", 1, 1}, {"a:1 b:2", 2, 1}, {"a:1,2 b:2", 2, 2}, {"a:2,1,2,2 b:1", 2, 1}, {"a:2 a a a", 2, 1}, {"c:2 0:2 A:2 c", 2, 3},
		{"a:0 b:1", 0, 1}, {"a:0 b:0,4294967295", highest, 1}, {"a:0 b:0,4294967295", 0, 2}, {"a:4294967294 b:4294967295", highest, 1},
		{"a:3,2,1", 1, 1}, {"a:3,2,1", 2, 1}, {"a:3,2,1", 3, 1}, {"a:3,2,1", 4, 0}, {"a:3,2,1 b c:4", 4, 1},
	} {
		c := tableOf(t, k.table)
		expectNumber(t, "the score in "+k.table, c.score(c.set(), k.man), k.want)
		c.expectScore(t, k.man)
	}
}

// P18.1: what none, one that no list has, one, one given twice, several and all cover.
func TestCover(t *testing.T) {
	for _, k := range []struct {
		table  string
		chosen []uint32
		want   int
	}{
		{"", nil, 0}, {"", []uint32{1}, 0}, {"a:1 b:2", nil, 0}, {"a:1 b:2", []uint32{}, 0}, {"a b: 0", []uint32{0}, 0},
		{"a:1 b:2", []uint32{3}, 0}, {"a:1 b:2", []uint32{0, highest}, 0}, {"a:1 b:2", []uint32{1}, 1}, {"a:1 b:2", []uint32{2, 2, 2}, 1}, {"a:1 b:2", []uint32{2, 1}, 2}, {"a:1 b:2", []uint32{9, 2, 0, 1, 2}, 2},
		{"a:1,2 b:2,1 c:2 d:3", []uint32{1, 2}, 3}, {"a:1,2 b:2,1 c:2 d:3", []uint32{1}, 2}, {"a:1,2 b:2,1 c:2 d:3", []uint32{3, 2, 1}, 4}, {"a:1,1,1", []uint32{1}, 1}, {"a:1 a a", []uint32{1}, 1},
		{"c:2 0:2 A:2 b c", []uint32{2}, 3}, {"a:0 b:0,4294967295 c:4294967295", []uint32{0}, 2}, {"a:0 b:0,4294967295 c:4294967295", []uint32{highest, 0}, 3}, {"a:0 b c:4294967295 d:", []uint32{highest, 0}, 2},
	} {
		c := tableOf(t, k.table)
		expectNumber(t, "the cover in "+k.table, len(c.set())-len(c.open(k.chosen)), k.want)
		c.expectCover(t, k.chosen...)
	}
}

// P18.3: no list, one, lists with duplicates, nil and empty ones; IDs in the same number of lists, and in others.
func TestRanks(t *testing.T) {
	one := []uint32{5, 9}
	for _, k := range []struct {
		lists [][]uint32
		want  []uint32
	}{
		{nil, nil}, {[][]uint32{}, nil}, {[][]uint32{nil}, nil}, {[][]uint32{{}, nil, {}}, nil},
		{[][]uint32{{7}}, []uint32{7}}, {[][]uint32{{0}}, []uint32{0}}, {[][]uint32{nil, {0}, {}}, []uint32{0}}, {[][]uint32{{7, 7, 7}}, []uint32{7}}, {[][]uint32{{1, 2, 3}}, []uint32{3, 2, 1}}, {[][]uint32{{3, 1, 3, 2, 1}}, []uint32{3, 2, 1}},
		{[][]uint32{{7, 7, 7}, {5, 9}, {5}}, []uint32{5, 9, 7}}, {[][]uint32{{1}, {2}, {3}}, []uint32{3, 2, 1}}, {[][]uint32{{1, 2}, {2, 1}, {3}}, []uint32{2, 1, 3}}, {[][]uint32{{1, 2, 3}, {1, 2}, {1}}, []uint32{1, 2, 3}},
		{[][]uint32{{highest, 0}, {0}}, []uint32{0, highest}}, {[][]uint32{{highest}, {0}}, []uint32{highest, 0}}, {[][]uint32{{2147483648, 2147483647}}, []uint32{2147483648, 2147483647}},
		{[][]uint32{one, one, one[:1], {7}}, []uint32{5, 9, 7}}, {[][]uint32{{4, 3}, {2, 3}, {2, 1}}, []uint32{3, 2, 4, 1}},
	} {
		if l := Ranks(k.lists...); !slices.Equal(l, k.want) {
			t.Errorf("Ranks of %d: %d, not %d", k.lists, l, k.want)
		}
		expectRanks(t, k.lists...)
	}
	if l := Ranks(); len(l) != 0 {
		t.Errorf("Ranks of nothing: %d", l)
	}
}

// A nil look returns nothing: no manifest has a score, and none is chosen.
func TestNilLook(t *testing.T) {
	for _, text := range []string{"", "0", "a", "cbaa0A"} {
		var hooks []api.Fp
		for i := range len(text) {
			hooks = append(hooks, fp(text[i]))
		}
		for _, man := range []uint32{0, 1, highest} {
			expectNumber(t, "Score", Score(hooks, nil, man), 0)
			expectNumber(t, "Cover", Cover(hooks, nil, []uint32{man, 0}), 0)
		}
		expectNumber(t, "Cover of none", Cover(hooks, nil, nil), 0)
		for _, most := range mosts {
			expectNumber(t, "champions", len(Choose(hooks, nil, most)), 0)
		}
	}
}

// Rule 1: no call panics, also where look does: it counts as one that returns nothing for that hook, and is called for the others.
func TestLookPanics(t *testing.T) {
	c := tableOf(t, "c:3 a:1,3 b d:1,2 0:2")
	full := c.lists[fp('d')]
	delete(c.lists, fp('d'))
	calls := 0
	look := func(h api.Fp) []uint32 {
		calls++
		switch h {
		case fp('d'):
			panic(full)
		case fp('b'):
			var none []uint32
			return none[1:2:calls]
		}
		return c.lists[h]
	}
	expectNumber(t, "Score of 3", Score(c.hooks, look, 3), 2)
	expectNumber(t, "Score of 1", Score(c.hooks, look, 1), 1)
	expectNumber(t, "Cover", Cover(c.hooks, look, []uint32{1, 2}), 2)
	expectList(t, "Choose", Choose(c.hooks, look, 9), []uint32{3, 2})
	expectNumber(t, "calls of look", calls, 4*len(c.hooks))
	always := func(api.Fp) []uint32 { panic("no list") }
	expectNumber(t, "Score", Score(c.hooks, always, 0), 0)
	expectNumber(t, "Cover", Cover(c.hooks, always, []uint32{0}), 0)
	expectNumber(t, "champions", len(Choose(c.hooks, always, 9)), 0)
}

// In every call look is called once for each hook, in the order of the set, also where no answer hangs on it.
func TestHowLookIsCalled(t *testing.T) {
	c := tableOf(t, "c:3 a:1,3 A:5 0:2 b a 0 d: c")
	want := []api.Fp{fp('0'), fp('a'), fp('b'), fp('c'), fp('d'), fp('A')}
	var asked []api.Fp
	look := func(h api.Fp) []uint32 { asked = append(asked, h); return c.lists[h] }
	expect := func(what string) {
		t.Helper()
		if !slices.Equal(asked, want) {
			t.Errorf("%s: look was asked for %x", what, asked)
		}
		asked = nil
	}
	for _, man := range []uint32{0, 1, 3, 5} {
		Score(c.hooks, look, man)
		expect("Score")
	}
	for _, chosen := range [][]uint32{nil, {}, {9}, {2}, {1, 2, 3, 5}} {
		Cover(c.hooks, look, chosen)
		expect("Cover")
	}
	for _, most := range mosts {
		Choose(c.hooks, look, most)
		expect("Choose")
	}
	for _, none := range [][]api.Fp{nil, {}} {
		Score(none, look, 1)
		Cover(none, look, []uint32{1})
		Choose(none, look, 9)
	}
	if len(asked) != 0 {
		t.Errorf("no hook: look was asked for %x", asked)
	}
}

// The order of the set is byte by byte, without signs; hooks that differ in any one byte are two.
func TestOrderOfLook(t *testing.T) {
	for at := range len(api.Fp{}) {
		c := table{lists: map[api.Fp][]uint32{}}
		for _, b := range []byte{255, 128, 0, 127, 1, 129, 128, 255} {
			h := api.Fp{}
			for i := range h {
				h[i] = byte(3 + i)
			}
			h[at] = b
			c.hooks = append(c.hooks, h)
			c.lists[h] = []uint32{7, uint32(b)}
		}
		c.expectAll(t)
	}
}

// A look that returns the same list for every hook: the first champion covers all.
func TestOneListForAll(t *testing.T) {
	hooks := tableOf(t, "c b 0 A b").hooks
	list := padded([]uint32{4, 9, 4, 0, 9}, 88)
	same := unchanged(list)
	look := func(api.Fp) []uint32 { return list }
	for man, want := range map[uint32]int{0: 4, 4: 4, 9: 4, 1: 0, 88: 0} {
		expectNumber(t, "Score", Score(hooks, look, man), want)
		expectNumber(t, "Cover", Cover(hooks, look, []uint32{man}), want)
	}
	expectList(t, "Choose", Choose(hooks, look, 9), []uint32{9})
	if !same() {
		t.Errorf("the list was changed: %d", list)
	}
}
