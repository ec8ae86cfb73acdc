package sparse

import (
	"fmt"
	"slices"
	"strings"
	"testing"

	"sheaf/api"
)

// mostPerHook and mostPairs are the limits of New, as the document writes them.
const (
	mostPerHook = 64
	mostPairs   = 65536
)

// wordsIndex is an index as the document's words have it: a table of pairs, each with the time at which it was put last, and one of hooks, each with the time of its last use.
type wordsIndex struct {
	perHook, most int
	now           int
	pairs         []wordsPair
	uses          []wordsUse
	puts          int // pairs that were ever put
}

type wordsPair struct {
	hook api.Fp
	man  uint32
	at   int
}

type wordsUse struct {
	hook api.Fp
	at   int
}

// isBefore goes byte by byte.
func isBefore(a, b api.Fp) bool {
	for i := range a {
		if a[i] != b[i] {
			return a[i] < b[i]
		}
	}
	return false
}

// setByWords puts each in its place, if it isn't there.
func setByWords(l []api.Fp) []api.Fp {
	var set []api.Fp
	for _, f := range l {
		at := 0
		for at < len(set) && isBefore(set[at], f) {
			at++
		}
		if at == len(set) || set[at] != f {
			set = slices.Insert(set, at, f)
		}
	}
	return set
}

// put returns the set of the hooks.
func (w *wordsIndex) put(man uint32, hooks ...api.Fp) []api.Fp {
	set := setByWords(hooks)
	for _, h := range set {
		w.putOne(man, h)
	}
	w.puts += len(set)
	return set
}

func (w *wordsIndex) putOne(man uint32, h api.Fp) {
	w.removePairs(func(p wordsPair) bool { return p.hook == h && p.man == man })
	w.now++
	w.pairs = append(w.pairs, wordsPair{h, man, w.now})
	if l := w.peek(h); len(l) > w.perHook {
		w.removePairs(func(p wordsPair) bool { return p.hook == h && p.man == l[len(l)-1] })
	}
	w.use(h)
	for len(w.pairs) > w.most {
		oldest := w.hooks()[0]
		w.removePairs(func(p wordsPair) bool { return p.hook == oldest })
	}
}

func (w *wordsIndex) removePairs(gone func(wordsPair) bool) int {
	n := len(w.pairs)
	w.pairs = slices.DeleteFunc(w.pairs, gone)
	return n - len(w.pairs)
}

func (w *wordsIndex) use(h api.Fp) {
	w.now++
	w.uses = slices.DeleteFunc(w.uses, func(u wordsUse) bool { return u.hook == h })
	w.uses = append(w.uses, wordsUse{h, w.now})
}

func (w *wordsIndex) look(h api.Fp) []uint32 {
	l := w.peek(h)
	if len(l) > 0 {
		w.use(h)
	}
	return l
}

func (w *wordsIndex) peek(h api.Fp) []uint32 {
	var of []wordsPair
	for _, p := range w.pairs {
		if p.hook == h {
			of = append(of, p)
		}
	}
	slices.SortFunc(of, func(a, b wordsPair) int { return b.at - a.at })
	var l []uint32
	for _, p := range of {
		l = append(l, p.man)
	}
	return l
}

func (w *wordsIndex) drop(man uint32) int {
	return w.removePairs(func(p wordsPair) bool { return p.man == man })
}

// hooks returns those with a pair.
func (w *wordsIndex) hooks() []api.Fp {
	used := slices.DeleteFunc(slices.Clone(w.uses), func(u wordsUse) bool { return len(w.peek(u.hook)) == 0 })
	slices.SortFunc(used, func(a, b wordsUse) int { return a.at - b.at })
	var l []api.Fp
	for _, u := range used {
		l = append(l, u.hook)
	}
	return l
}

// fp returns the fingerprint of a letter: its last byte, so that a is less than b; of a capital letter the first byte is 255. The digit 0 is the zero fingerprint.
func fp(letter byte) api.Fp {
	switch {
	case letter == '0':
		return api.Fp{}
	case letter < 'a':
		return api.Fp{0: 255, 31: letter}
	}
	return api.Fp{31: letter}
}

func fps(letters string) []api.Fp {
	var l []api.Fp
	for i := range len(letters) {
		l = append(l, fp(letters[i]))
	}
	return l
}

// letterOf returns the letter of a fingerprint that fp made, and four bytes of any other.
func letterOf(f api.Fp) string {
	switch {
	case f == api.Fp{}:
		return "0"
	case f == fp(f[31]):
		return string(f[31:])
	}
	return fmt.Sprintf("%x", f[:4])
}

// told is what an index has, as a text: its hooks in their order, each with its list.
func told(x *Index) string { return toldOf(x.Hooks(), x.Peek) }

func (w *wordsIndex) told() string { return toldOf(w.hooks(), w.peek) }

func toldOf(hooks []api.Fp, peek func(api.Fp) []uint32) string {
	var l []string
	for _, h := range hooks {
		of := letterOf(h)
		for i, man := range peek(h) {
			of += string(":,"[min(i, 1)]) + fmt.Sprint(man)
		}
		l = append(l, of)
	}
	return strings.Join(l, " ")
}

// anyNumbers returns what makes numbers from 0 on, below what it is asked for; another seed gives other ones.
func anyNumbers(seed uint32) func(below int) int {
	return func(below int) int {
		seed = seed*1664525 + 1013904223
		return int(seed>>8) % below
	}
}

// two is an index, and the same by the words.
type two struct {
	x *Index
	w *wordsIndex
}

// twoOf returns a new index for bounds that New takes.
func twoOf(t *testing.T, perHook, most int) two {
	t.Helper()
	x, e := New(perHook, most)
	if x == nil || e != api.OK {
		t.Fatalf("New(%d, %d): %v %d", perHook, most, x, e)
	}
	return two{x, &wordsIndex{perHook: perHook, most: most}}
}

// expect holds all that can be asked without a use, twice; of hooks that have no list, those that are passed too.
func (c two) expect(t *testing.T, what string, others ...api.Fp) {
	t.Helper()
	want := c.w.hooks()
	for range 2 {
		if n := c.x.Len(); n != len(c.w.pairs) {
			t.Errorf("%s: Len %d, not %d", what, n, len(c.w.pairs))
		}
		if got := c.x.Hooks(); !slices.Equal(got, want) {
			t.Errorf("%s: %s, not %s", what, told(c.x), c.w.told())
		}
		for _, h := range append(others, want...) {
			expectList(t, what+": Peek of "+letterOf(h), c.x.Peek(h), c.w.peek(h))
		}
	}
}

func expectList(t *testing.T, what string, got, want []uint32) {
	t.Helper()
	if !slices.Equal(got, want) {
		t.Errorf("%s: %d, not %d", what, got, want)
	}
}

func expectNumber(t *testing.T, what string, got, want int) {
	t.Helper()
	if got != want {
		t.Errorf("%s: %d, not %d", what, got, want)
	}
}

// put holds what P17.5 and P17.6 say of every Put, too.
func (c two) put(t *testing.T, man uint32, hooks ...api.Fp) {
	t.Helper()
	what := fmt.Sprintf("Put of %d under %d hooks, then %s", man, len(hooks), c.w.told())
	given := slices.Clone(hooks)
	c.x.Put(man, hooks...)
	set := c.w.put(man, hooks...)
	if !slices.Equal(hooks, given) {
		t.Errorf("%s: the hooks were changed", what)
	}
	c.expect(t, what, given...)
	c.expectBounds(t, what)
	c.expectNewest(t, what, man, set)
}

// expectBounds is P17.5.
func (c two) expectBounds(t *testing.T, what string) {
	t.Helper()
	n := 0
	for _, h := range c.x.Hooks() {
		size := len(c.x.Peek(h))
		if n += size; size < 1 || size > c.w.perHook {
			t.Errorf("%s: a list of %d, where %d may be", what, size, c.w.perHook)
		}
	}
	if n != c.x.Len() || n > c.w.most {
		t.Errorf("%s: %d pairs, Len %d, where %d may be", what, n, c.x.Len(), c.w.most)
	}
}

// expectNewest is P17.6.
func (c two) expectNewest(t *testing.T, what string, man uint32, set []api.Fp) {
	t.Helper()
	isFirst := func(h api.Fp) bool { return len(c.x.Peek(h)) > 0 && c.x.Peek(h)[0] == man }
	if len(set) > 0 {
		last := set[len(set)-1]
		if slices.Contains(c.x.Hooks(), last) && !isFirst(last) {
			t.Errorf("%s: the last hook has %d", what, c.x.Peek(last))
		}
	}
	if c.w.perHook == 0 || c.w.most < c.w.puts {
		return
	}
	for _, h := range set {
		if !isFirst(h) {
			t.Errorf("%s: there is room for all, and %s has %d", what, letterOf(h), c.x.Peek(h))
		}
	}
}

func (c two) look(t *testing.T, h api.Fp) {
	t.Helper()
	what := "Look of " + letterOf(h) + ", then " + c.w.told()
	expectList(t, what, c.x.Look(h), c.w.look(h))
	c.expect(t, what, h)
}

func (c two) peek(t *testing.T, h api.Fp) {
	t.Helper()
	what := "Peek of " + letterOf(h) + ", then " + c.w.told()
	expectList(t, what, c.x.Peek(h), c.w.peek(h))
	c.expect(t, what, h)
}

func (c two) drop(t *testing.T, man uint32) {
	t.Helper()
	what := fmt.Sprintf("Drop of %d, then %s", man, c.w.told())
	expectNumber(t, what, c.x.Drop(man), c.w.drop(man))
	c.expect(t, what)
	for _, h := range c.x.Hooks() {
		if slices.Contains(c.x.Peek(h), man) {
			t.Errorf("%s: %s has it still", what, letterOf(h))
		}
	}
}
