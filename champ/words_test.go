package champ

import (
	"fmt"
	"slices"
	"strconv"
	"strings"
	"testing"

	"sheaf/api"
)

// maxChamps is the limit of Choose, as the document writes it.
const maxChamps = 64

// highest is the greatest manifest.
const highest = 1<<32 - 1

// table is the hooks that are passed, in any order and with duplicates, and what look returns for each.
type table struct {
	hooks []api.Fp
	lists map[api.Fp][]uint32
}

// fp returns the fingerprint of a letter: its last byte, so that a is less than b; of a capital letter the first byte is 255, so that it is above all others. The digit 0 is the zero fingerprint.
func fp(letter byte) api.Fp {
	switch {
	case letter == '0':
		return api.Fp{}
	case letter < 'a':
		return api.Fp{0: 255, 31: letter}
	}
	return api.Fp{31: letter}
}

// tableOf reads the hooks as they are passed, by their letters, each with its list: "b:2,1 a: b" is the hook b with the manifests 2 and 1, a with an empty list, and b once more. A hook that has no colon anywhere has a nil list.
func tableOf(t *testing.T, text string) table {
	t.Helper()
	c := table{lists: map[api.Fp][]uint32{}}
	for _, word := range strings.Fields(text) {
		letter, list, found := strings.Cut(word, ":")
		h := fp(letter[0])
		c.hooks = append(c.hooks, h)
		if found {
			c.lists[h] = []uint32{}
		}
		for _, man := range strings.FieldsFunc(list, func(r rune) bool { return r == ',' }) {
			n, err := strconv.ParseUint(man, 10, 32)
			if err != nil {
				t.Fatal(err)
			}
			c.lists[h] = append(c.lists[h], uint32(n))
		}
	}
	return c
}

// told is a table as a text, of whatever hooks.
func (c table) told() string {
	if len(c.hooks) > 20 {
		return fmt.Sprintf("%d hooks", len(c.hooks))
	}
	var l []string
	for _, h := range c.hooks {
		l = append(l, fmt.Sprintf("%x..%x:%d", h[0], h[31], c.lists[h]))
	}
	return strings.Join(l, " ")
}

// isBefore goes byte by byte.
func isBefore(a, b api.Fp) bool {
	for i := range a {
		if a[i] != b[i] {
			return a[i] < b[i]
		}
	}
	return false
}

// set is the hooks as a set.
func (c table) set() []api.Fp {
	set := slices.Clone(c.hooks)
	slices.SortFunc(set, func(a, b api.Fp) int {
		switch {
		case isBefore(a, b):
			return -1
		case isBefore(b, a):
			return 1
		}
		return 0
	})
	return slices.Compact(set)
}

// mans is all manifests that a list of a hook has, from the greatest ID down.
func (c table) mans() []uint32 {
	var all [][]uint32
	for _, h := range c.hooks {
		all = append(all, c.lists[h])
	}
	return downOf(all)
}

func downOf(lists [][]uint32) []uint32 {
	all := slices.Concat(lists...)
	slices.Sort(all)
	slices.Reverse(all)
	return slices.Compact(all)
}

// score is the document's: the number of these hooks whose list contains the manifest.
func (c table) score(hooks []api.Fp, man uint32) int {
	n := 0
	for _, h := range hooks {
		if slices.Contains(c.lists[h], man) {
			n++
		}
	}
	return n
}

// open is those hooks of the set whose list contains none of the chosen manifests.
func (c table) open(chosen []uint32) []api.Fp {
	return slices.DeleteFunc(c.set(), func(h api.Fp) bool {
		for _, man := range chosen {
			if slices.Contains(c.lists[h], man) {
				return true
			}
		}
		return false
	})
}

// choose goes from the greatest ID down, so that only a greater score takes the place of one that was found.
func (c table) choose(most int) []uint32 {
	var chosen []uint32
	mans := c.mans()
	for len(chosen) < most && len(chosen) < maxChamps {
		open := c.open(chosen)
		greatest, champion := 0, uint32(0)
		for _, man := range mans {
			if slices.Contains(chosen, man) {
				continue
			}
			if score := c.score(open, man); score > greatest {
				greatest, champion = score, man
			}
		}
		if greatest == 0 {
			break
		}
		chosen = append(chosen, champion)
	}
	return chosen
}

// ranksByWords goes from all lists down to one: of those IDs that are in so many lists the greatest comes first.
func ranksByWords(lists [][]uint32) []uint32 {
	var ranks []uint32
	down := downOf(lists)
	for n := len(lists); n > 0; n-- {
		for _, man := range down {
			in := 0
			for _, l := range lists {
				if slices.Contains(l, man) {
					in++
				}
			}
			if in == n {
				ranks = append(ranks, man)
			}
		}
	}
	return ranks
}

// padded returns a copy with room for more, which has pad.
func padded[T any](l []T, pad T) []T {
	room := append(append(make([]T, 0, len(l)+3), l...), pad, pad, pad)
	return room[:len(l)]
}

// unchanged returns what tells whether a list has still the elements that it had, also behind its end.
func unchanged[T comparable](l []T) func() bool {
	before := slices.Clone(l[:cap(l)])
	return func() bool { return slices.Equal(l[:cap(l)], before) }
}

// spoil changes a list, with all that its memory has room for.
func spoil(l []uint32) {
	l = l[:cap(l)]
	for i := range l {
		l[i] = 77 + uint32(i)
	}
}

// The kinds of look: one returns its own lists, one copies, and one the same memory for all hooks.
const (
	ownLists = iota
	copies
	sameMemory
	kindsOfLook
)

// lookOf returns a look of a kind, and what tells whether it was asked for each hook of the set, in its order, whether its lists are as they were, and whether the last one that it returned is.
func (c table) lookOf(kind int) (look func(h api.Fp) []uint32, fault func() string) {
	var asked []api.Fp
	lists := map[api.Fp][]uint32{}
	fine := []func() bool{}
	var memory, last []uint32
	for h, l := range c.lists {
		lists[h] = padded(l, 88)
		fine = append(fine, unchanged(lists[h]))
	}
	look = func(h api.Fp) []uint32 {
		asked = append(asked, h)
		last = lists[h]
		switch kind {
		case ownLists:
			return lists[h]
		case copies:
			return slices.Clone(lists[h])
		}
		spoil(memory)
		memory = append(memory[:0], last...)
		return memory
	}
	fault = func() string {
		switch {
		case !slices.Equal(asked, c.set()):
			return fmt.Sprintf("look was asked for %d hooks, not for the %d of the set: %x", len(asked), len(c.set()), asked[:min(len(asked), 9)])
		case slices.ContainsFunc(fine, func(f func() bool) bool { return !f() }):
			return "a list of look was changed"
		case kind == sameMemory && !slices.Equal(memory, last):
			return "the memory of look was changed"
		}
		return ""
	}
	return look, fault
}

// with does a call with each kind of look.
func (c table) with(t *testing.T, what string, call func(hooks []api.Fp, look func(h api.Fp) []uint32)) {
	t.Helper()
	for kind := range kindsOfLook {
		hooks := padded(c.hooks, fp('Z'))
		same := unchanged(hooks)
		look, fault := c.lookOf(kind)
		call(hooks, look)
		if s := fault(); s != "" {
			t.Errorf("%s of %s: %s", what, c.told(), s)
		}
		if !same() {
			t.Errorf("%s of %s: the hooks were changed", what, c.told())
		}
	}
}

func (c table) expectScore(t *testing.T, man uint32) {
	t.Helper()
	want := c.score(c.set(), man)
	c.with(t, "Score", func(hooks []api.Fp, look func(h api.Fp) []uint32) {
		if n := Score(hooks, look, man); n != want {
			t.Errorf("Score of %d in %s: %d, not %d", man, c.told(), n, want)
		}
	})
}

func (c table) expectCover(t *testing.T, chosen ...uint32) {
	t.Helper()
	want := len(c.set()) - len(c.open(chosen))
	c.with(t, "Cover", func(hooks []api.Fp, look func(h api.Fp) []uint32) {
		chosen := padded(chosen, 99)
		same := unchanged(chosen)
		if n := Cover(hooks, look, chosen); n != want {
			t.Errorf("Cover of %d in %s: %d, not %d", chosen, c.told(), n, want)
		}
		if !same() {
			t.Errorf("Cover in %s: the chosen were changed", c.told())
		}
	})
}

// expectChoose holds what P18.4 and P18.5 say of every Choose, too; it returns the champions.
func (c table) expectChoose(t *testing.T, most int) []uint32 {
	t.Helper()
	want := c.choose(most)
	c.with(t, "Choose", func(hooks []api.Fp, look func(h api.Fp) []uint32) {
		l := Choose(hooks, look, most)
		if !slices.Equal(l, want) {
			t.Errorf("Choose of %d in %s: %d, not %d", most, c.told(), l, want)
		}
		c.expectEachNew(t, l, most)
		c.expectFirst(t, l, most)
	})
	return want
}

// expectEachNew is P18.4.
func (c table) expectEachNew(t *testing.T, champions []uint32, most int) {
	t.Helper()
	for i, man := range champions {
		if c.score(c.open(champions[:i]), man) == 0 {
			t.Errorf("Choose in %s: %d is new to no hook behind %d", c.told(), man, champions[:i])
		}
	}
	if len(champions) >= min(most, maxChamps) {
		return
	}
	for _, h := range c.open(champions) {
		if len(c.lists[h]) > 0 {
			t.Errorf("Choose of %d in %s: %d, and %x is not covered", most, c.told(), champions, h)
		}
	}
}

// expectFirst is P18.5.
func (c table) expectFirst(t *testing.T, champions []uint32, most int) {
	t.Helper()
	if (len(champions) > 0) != (most > 0 && len(c.mans()) > 0) {
		t.Errorf("Choose of %d in %s: %d champions", most, c.told(), len(champions))
	}
	for _, man := range c.mans() {
		if len(champions) > 0 && c.score(c.set(), man) > c.score(c.set(), champions[0]) {
			t.Errorf("Choose in %s: %d, and %d has a greater score", c.told(), champions, man)
		}
	}
}

// expectAll does each call, with each manifest, and with each number of champions that there may be.
func (c table) expectAll(t *testing.T) {
	t.Helper()
	mans := c.mans()
	for _, man := range append(mans, 0, 40, highest) {
		c.expectScore(t, man)
		c.expectCover(t, man)
		c.expectCover(t, 41, man, man)
	}
	c.expectCover(t)
	c.expectCover(t, mans...)
	champions := c.expectChoose(t, maxChamps)
	for most := -1; most <= len(champions)+1; most++ {
		l := c.expectChoose(t, most)
		c.expectCover(t, l...)
	}
	lists := [][]uint32{}
	for _, h := range c.hooks {
		lists = append(lists, c.lists[h])
	}
	expectRanks(t, lists...)
}

func expectRanks(t *testing.T, lists ...[]uint32) {
	t.Helper()
	want := ranksByWords(lists)
	given := make([][]uint32, len(lists))
	fine := []func() bool{}
	for i, l := range lists {
		given[i] = padded(l, 88)
		fine = append(fine, unchanged(given[i]))
	}
	outer := slices.Clone(given)
	if l := Ranks(given...); !slices.Equal(l, want) {
		t.Errorf("Ranks of %d: %d, not %d", lists, l, want)
	}
	for i := range lists {
		if !fine[i]() || len(given[i]) != len(lists[i]) || &given[i][:1][0] != &outer[i][:1][0] {
			t.Errorf("Ranks of %d: list %d was changed", lists, i)
		}
	}
}

func expectList(t *testing.T, what string, got, want []uint32) {
	t.Helper()
	if !slices.Equal(got, want) {
		t.Errorf("%s: %d, not %d", what, got, want)
	}
}

func expectNumber(t *testing.T, what string, got, want int) {
	t.Helper()
	if got != want {
		t.Errorf("%s: %d, not %d", what, got, want)
	}
}
