package champ

import (
	"math"
	"math/bits"
	"slices"
	"testing"

	"sheaf/api"
)

// anyNumbers returns what makes numbers from 0 on, below what it is asked for; another seed gives other ones.
func anyNumbers(seed uint32) func(below int) int {
	return func(below int) int {
		seed = seed*1664525 + 1013904223
		return int(seed>>8) % below
	}
}

// anyTable has up to so many hooks, some of them given twice, each with a list of up to so many manifests, in any order and with duplicates.
func anyTable(next func(int) int, hooks, size int, mans []uint32) table {
	c := table{lists: map[api.Fp][]uint32{}}
	for range next(hooks + 1) {
		h := api.Fp{0: byte(127 + next(2)), 15: byte(next(2)), 31: byte(next(hooks))}
		c.hooks = append(c.hooks, h)
		if next(4) == 0 {
			c.hooks = append(c.hooks, c.hooks[next(len(c.hooks))])
		}
		c.lists[h] = nil
		for range next(size + 1) {
			c.lists[h] = append(c.lists[h], mans[next(len(mans))])
		}
	}
	return c
}

// P18.1 to P18.5: each call with all tables of few hooks and manifests.
func TestAllTables(t *testing.T) {
	for _, k := range []struct {
		hooks string
		mans  []uint32
	}{
		{"", nil}, {"0", []uint32{0, 1, 2, highest}}, {"ba", []uint32{0, 3, highest}}, {"bca", []uint32{0, 3, highest}}, {"cabZ", []uint32{2, 1}},
	} {
		lists := 1 << len(k.mans)
		for n := range 1 << (len(k.hooks) * len(k.mans)) {
			c := table{lists: map[api.Fp][]uint32{}}
			for i := range len(k.hooks) {
				h := fp(k.hooks[i])
				c.hooks = append(c.hooks, h)
				for j, man := range k.mans {
					if n%lists>>j&1 == 1 {
						c.lists[h] = append(c.lists[h], man)
					}
				}
				n /= lists
			}
			c.expectAll(t)
		}
	}
}

// P18.1 to P18.5: each call with all lists of up to three manifests, in any order and with duplicates, for two hooks.
func TestAllLists(t *testing.T) {
	lists := [][]uint32{nil, {}}
	for at := 0; at < len(lists); at++ {
		for man := range uint32(2) {
			if len(lists[at]) < 3 && lists[at] != nil {
				lists = append(lists, append(slices.Clone(lists[at]), man))
			}
		}
	}
	expectNumber(t, "lists", len(lists), 1+1+2+4+8)
	for _, a := range lists {
		for _, b := range lists {
			c := table{[]api.Fp{fp('b'), fp('a'), fp('b')}, map[api.Fp][]uint32{fp('a'): a, fp('b'): b}}
			c.expectAll(t)
		}
	}
}

// P18.2, P18.4, P18.5: Choose with all tables of four hooks and three manifests, and of three hooks and four manifests.
func TestAllChoices(t *testing.T) {
	for _, k := range [][2]int{{4, 3}, {3, 4}} {
		for n := range 1 << (k[0] * k[1]) {
			c := numbered(k[0], func(i int) []uint32 {
				var l []uint32
				for j := range k[1] {
					if n>>(i*k[1]+j)&1 == 1 {
						l = append(l, uint32(j))
					}
				}
				return l
			})
			c.expectChoose(t, k[1])
		}
	}
}

// P18.1 to P18.5: tables of any kind.
func TestAnyTables(t *testing.T) {
	next := anyNumbers(1)
	mans := []uint32{5, 0, highest, 3, 1 << 31, 1<<31 - 1, 1, highest - 1, 2, 7, 12, 4}
	for i := range 1500 {
		anyTable(next, 1+i%12, i%7, mans[:1+i%len(mans)]).expectAll(t)
	}
}

// P18.1 to P18.5: tables of many hooks and manifests, so that there are as many champions as there may be.
func TestManyHooks(t *testing.T) {
	next := anyNumbers(2)
	var mans []uint32
	for range 400 {
		mans = append(mans, uint32(next(1<<24))<<8|uint32(next(256)))
	}
	for _, size := range []int{1, 2, 5} {
		c := anyTable(next, 250, size, mans)
		for len(c.hooks) < 200 {
			c = anyTable(next, 250, size, mans)
		}
		l := c.expectChoose(t, math.MaxInt)
		expectNumber(t, "champions", len(l), maxChamps)
		c.expectChoose(t, 9)
		c.expectCover(t, l...)
		c.expectCover(t, mans...)
		for _, man := range mans[:40] {
			c.expectScore(t, man)
		}
		var lists [][]uint32
		for _, h := range c.hooks {
			lists = append(lists, c.lists[h])
		}
		expectRanks(t, lists...)
	}
}

// P18.1, P18.2, P18.3: as many hooks as an index may have pairs; each has as its manifest the number of bits of its own number, so that each manifest is in twice as many lists as the one below it.
func TestGreat(t *testing.T) {
	const hooks = 1 << 16
	c := numbered(hooks, func(i int) []uint32 { return []uint32{uint32(bits.Len(uint(i)))} })
	asked := 0
	look := func(h api.Fp) []uint32 { asked++; return c.lists[h] }
	want := []uint32{16, 15, 14, 13, 12, 11, 10, 9, 8, 7, 6, 5, 4, 3, 2, 1, 0}
	for most := 0; most <= len(want); most++ {
		l := Choose(append(c.hooks, c.hooks...), look, most)
		expectList(t, "Choose", l, want[:most])
		expectNumber(t, "Cover", Cover(c.hooks, look, l), hooks-hooks>>most)
	}
	expectNumber(t, "Score", Score(c.hooks, look, 10), 512)
	expectNumber(t, "calls of look", asked, hooks*(2*len(want)+3))
	var lists [][]uint32
	for _, h := range c.hooks {
		lists = append(lists, c.lists[h])
	}
	expectList(t, "Ranks", Ranks(lists...), want)
}

// P18.1, P18.2, P18.3: a list of many manifests, each of them given twice, and one that another hook has, too.
func TestLongList(t *testing.T) {
	const size = 1 << 18
	var long []uint32
	for i := range uint32(2 * size) {
		long = append(long, i*7919%size)
	}
	c := table{[]api.Fp{fp('a'), fp('b')}, map[api.Fp][]uint32{fp('a'): long, fp('b'): {5}}}
	look, fault := c.lookOf(sameMemory)
	expectList(t, "Choose", Choose(c.hooks, look, 9), []uint32{5})
	if s := fault(); s != "" {
		t.Error(s)
	}
	expectNumber(t, "Score", Score(c.hooks, look, size-1), 1)
	expectNumber(t, "Score", Score(c.hooks, look, size), 0)
	expectNumber(t, "Cover", Cover(c.hooks, look, long), 2)
	ranks := Ranks(long, []uint32{5}, nil)
	if len(ranks) != size || ranks[0] != 5 || ranks[1] != size-1 || ranks[size-1] != 0 {
		t.Errorf("Ranks of a long list: %d, from %d on", len(ranks), ranks[:2])
	}
}

// Rule 4: what is returned is the caller's own: a change of it changes no list and no later answer, and a change of the lists doesn't change it.
func TestOwnMemory(t *testing.T) {
	c := tableOf(t, "a:1,2,9 b:2,9 c:3 d:0,4 e:9")
	want := []uint32{9, 4, 3}
	ranks := []uint32{9, 2, 4, 3, 1, 0}
	var lists [][]uint32
	for _, h := range c.set() {
		lists = append(lists, c.lists[h])
	}
	look, fault := c.lookOf(ownLists)
	first, firstRanks := Choose(c.hooks, look, 9), Ranks(lists...)
	if s := fault(); s != "" {
		t.Error(s)
	}
	for range 3 {
		l, r := Choose(c.hooks, look, 9), Ranks(lists...)
		expectList(t, "Choose", l, want)
		expectList(t, "Ranks", r, ranks)
		spoil(l)
		spoil(r)
	}
	for _, l := range lists {
		expectNumber(t, "Cover of a list", Cover(c.hooks, look, l), len(c.set())-len(c.open(l)))
	}
	for _, l := range lists {
		spoil(l)
		spoil(look(fp('a')))
	}
	expectList(t, "an earlier Choose", first, want)
	expectList(t, "an earlier Ranks", firstRanks, ranks)
	// Not even where a list is just what is returned.
	one := []uint32{7}
	l, r := Choose(c.hooks, func(api.Fp) []uint32 { return one }, 1), Ranks(one)
	spoil(l)
	spoil(r)
	expectList(t, "the list", one, []uint32{7})
}

// Rule 5: the same answer each time, where many manifests have the same score.
func TestSameAnswer(t *testing.T) {
	c := numbered(40, func(i int) []uint32 { return []uint32{uint32(i), uint32(i ^ 1), uint32(i | 3)} })
	var lists [][]uint32
	for _, h := range c.hooks {
		lists = append(lists, c.lists[h])
	}
	want, ranks := c.choose(maxChamps), ranksByWords(lists)
	for range 200 {
		look, _ := c.lookOf(ownLists)
		expectList(t, "Choose", Choose(c.hooks, look, maxChamps), want)
		expectList(t, "Ranks", Ranks(lists...), ranks)
	}
}

func FuzzChamp(f *testing.F) {
	f.Add(9, "")
	f.Add(1, "a\x01a\x02b\x02c\x03")
	f.Add(-1, "a\x00b\xffb\xffa\x00\x00\x00\xff\xff")
	f.Add(64, "abcdefghijklmnopqrstuvwxyzabcdefghijklmnopqrstuvwxyz")
	f.Fuzz(func(t *testing.T, most int, pairs string) {
		pairs = pairs[:min(len(pairs), 80)&^1]
		c := table{lists: map[api.Fp][]uint32{}}
		for i := 0; i < len(pairs); i += 2 {
			h := api.Fp{31: pairs[i]}
			c.hooks = append(c.hooks, h)
			// So that the manifests 0 and the greatest one are among these.
			c.lists[h] = append(c.lists[h], uint32(int32(int8(pairs[i+1]))))
		}
		c.expectChoose(t, most)
		c.expectAll(t)
	})
}
