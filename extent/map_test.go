package extent

import (
	"fmt"
	"math"
	"slices"
	"testing"

	"sheaf/api"
)

// wordsMap is a map as the document's words have it.
type wordsMap struct {
	from, sectors int
	free          *sectorSet
}

func newByWords(from, sectors int) *wordsMap {
	return &wordsMap{from, sectors, setByWords(runs(from, sectors-from))}
}

func (w *wordsMap) take(n int) ([]api.Run, api.Errno) {
	l, e := w.free.lowest(n)
	w.free = w.free.minus(setByWords(l))
	return l, e
}

func (w *wordsMap) hold(l []api.Run) api.Errno {
	if !validByWords(l, w.from, w.sectors) {
		return api.ErrArg
	}
	if setByWords(l).minus(w.free).count() > 0 {
		return api.ErrFull
	}
	w.free = w.free.minus(setByWords(l))
	return api.OK
}

func (w *wordsMap) give(l []api.Run) api.Errno {
	if !validByWords(l, w.from, w.sectors) {
		return api.ErrArg
	}
	if setByWords(l).common(w.free).count() > 0 {
		return api.ErrNone
	}
	w.free = setByWords(w.free.list(), l)
	return api.OK
}

// expectMap holds all that can be asked of a map against the document's words, twice.
func expectMap(t *testing.T, what string, m *Map, w *wordsMap) {
	t.Helper()
	for range 2 {
		expectRuns(t, what+": Free", m.Free(), w.free.list())
		if m.Room() != w.free.count() {
			t.Errorf("%s: Room %d, not %d", what, m.Room(), w.free.count())
		}
	}
}

// made returns a map, and the same by the words.
func made(t *testing.T, from, sectors int) (*Map, *wordsMap) {
	t.Helper()
	m, e := New(from, sectors)
	if m == nil || e != api.OK {
		t.Fatalf("New(%d, %d): %v %d", from, sectors, m, e)
	}
	return m, newByWords(from, sectors)
}

func doTake(t *testing.T, m *Map, w *wordsMap, n int) []api.Run {
	t.Helper()
	l, e := m.Take(n)
	want, wantE := w.take(n)
	what := fmt.Sprintf("Take(%d)", n)
	expectRuns(t, what, l, want)
	expectErr(t, what, e, wantE)
	expectMap(t, what, m, w)
	return l
}

func doHold(t *testing.T, m *Map, w *wordsMap, l []api.Run) {
	t.Helper()
	what := "Hold of " + told(l)
	expectErr(t, what, m.Hold(l), w.hold(l))
	expectMap(t, what, m, w)
}

func doGive(t *testing.T, m *Map, w *wordsMap, l []api.Run) {
	t.Helper()
	what := "Give of " + told(l)
	expectErr(t, what, m.Give(l), w.give(l))
	expectMap(t, what, m, w)
}

// P10.4: maps of all sectors, of none, and of some; numbers of which there is no map.
func TestNew(t *testing.T) {
	numbers := []int{math.MinInt, math.MinInt + 1, -most, -1, 0, 1, 2, 3, 4, 5, 4000, most - 1, most, most + 1, 2 * most, math.MaxInt - 1, math.MaxInt}
	for _, from := range numbers {
		for _, sectors := range numbers {
			if 0 <= from && from <= sectors && sectors <= most {
				m, w := made(t, from, sectors)
				expectMap(t, fmt.Sprintf("New(%d, %d)", from, sectors), m, w)
			} else if m, e := New(from, sectors); m != nil || e != api.ErrRange {
				t.Errorf("New(%d, %d): %v %d", from, sectors, m, e)
			}
		}
	}
	for _, c := range []struct{ from, sectors, room int }{{0, 0, 0}, {0, most, most}, {most, most, 0}, {2, 10, 8}, {7, 8, 1}} {
		if m, e := New(c.from, c.sectors); e != api.OK || m.Room() != c.room || Count(m.Free()) != c.room {
			t.Errorf("New(%d, %d): %d", c.from, c.sectors, e)
		}
	}
}

// P10.4: each call, with all that may be passed to it, in each state of a small map.
func TestAllStates(t *testing.T) {
	const from, sectors = 1, 5
	lists := listsOf(smallRuns(0, 6, 3), 2)
	for bits := range 1 << (sectors - from) {
		var taken []api.Run
		for i := range sectors - from {
			if bits>>i&1 == 1 {
				taken = append(taken, api.Run{At: from + i, Len: 1})
			}
		}
		reach := func() (*Map, *wordsMap) {
			m, w := made(t, from, sectors)
			expectErr(t, "Hold of "+told(taken), m.Hold(taken), w.hold(taken))
			return m, w
		}
		for _, n := range []int{math.MinInt, -1, 0, 1, 2, 3, 4, 5, 6, math.MaxInt} {
			m, w := reach()
			doTake(t, m, w, n)
		}
		for _, l := range lists {
			m, w := reach()
			if w.hold(l) != m.Hold(l) || !slices.Equal(m.Free(), w.free.list()) {
				t.Errorf("Hold of %s, %s taken: %s", told(l), told(taken), told(m.Free()))
			}
			m, w = reach()
			if w.give(l) != m.Give(l) || !slices.Equal(m.Free(), w.free.list()) {
				t.Errorf("Give of %s, %s taken: %s", told(l), told(taken), told(m.Free()))
			}
		}
	}
}

// P10.4: Take of nothing, of all, of one more than all, behind which the map is the same.
func TestTake(t *testing.T) {
	for _, c := range [][2]int{{0, 0}, {0, 1}, {0, most}, {most, most}, {most - 1, most}, {2, 10}, {100, 200}} {
		m, w := made(t, c[0], c[1])
		all := c[1] - c[0]
		for _, n := range []int{0, -1, all + 1, math.MinInt, math.MaxInt, most + 1, all / 3, 0, 1, all, all - all/3 - 1, 0, 1} {
			doTake(t, m, w, n)
		}
	}
}

// P10.4: Take where the free sectors are in more than 16 runs.
func TestTakeOfManyRuns(t *testing.T) {
	m, w := made(t, 1, 101)
	for i := range 49 {
		doHold(t, m, w, runs(2+2*i, 1))
	}
	for _, n := range []int{17, 51, 52, 18, -1, 16, 17, 0, 16, 17, 18, 19} {
		doTake(t, m, w, n)
	}
	doGive(t, m, w, runs(1, 10))
	doTake(t, m, w, 17)
}

// P10.4: known lists that are held and given, with the free sectors behind each.
func TestHoldGiveKnown(t *testing.T) {
	m, _ := made(t, 2, 10)
	for i, c := range []struct {
		give bool
		l    []api.Run
		e    api.Errno
		free []api.Run
	}{
		{false, nil, api.OK, runs(2, 8)}, {true, nil, api.OK, runs(2, 8)}, {true, runs(4, 1), api.ErrNone, runs(2, 8)},
		{false, runs(4, 2, 9, 1), api.OK, runs(2, 2, 6, 3)}, {false, runs(4, 2), api.ErrFull, runs(2, 2, 6, 3)},
		{false, runs(2, 3), api.ErrFull, runs(2, 2, 6, 3)}, {false, runs(5, 2), api.ErrFull, runs(2, 2, 6, 3)}, {false, runs(2, 8), api.ErrFull, runs(2, 2, 6, 3)},
		{false, runs(2, 1, 9, 1), api.ErrFull, runs(2, 2, 6, 3)}, {true, runs(4, 3), api.ErrNone, runs(2, 2, 6, 3)}, {true, runs(9, 1, 3, 2), api.ErrNone, runs(2, 2, 6, 3)},
		{false, runs(1, 1), api.ErrArg, runs(2, 2, 6, 3)}, {true, runs(1, 1), api.ErrArg, runs(2, 2, 6, 3)}, {false, runs(9, 2), api.ErrArg, runs(2, 2, 6, 3)},
		{true, runs(9, 2), api.ErrArg, runs(2, 2, 6, 3)}, {false, runs(3, 0), api.ErrArg, runs(2, 2, 6, 3)}, {true, runs(4, 0), api.ErrArg, runs(2, 2, 6, 3)},
		{false, runs(2, 1, 2, 1), api.ErrArg, runs(2, 2, 6, 3)}, {true, runs(4, 1, 4, 1), api.ErrArg, runs(2, 2, 6, 3)}, {false, runs(4, 1, 4, 1), api.ErrArg, runs(2, 2, 6, 3)},
		{true, runs(3, 1, 3, 1), api.ErrArg, runs(2, 2, 6, 3)}, {false, runs(8, 1, 2, 1), api.OK, runs(3, 1, 6, 2)}, {true, runs(9, 1, 8, 1), api.OK, runs(3, 1, 6, 4)},
		{true, runs(5, 1), api.OK, runs(3, 1, 5, 5)}, {true, runs(2, 1), api.OK, runs(2, 2, 5, 5)}, {true, runs(4, 1), api.OK, runs(2, 8)},
		{false, runs(3, 7, 2, 1), api.OK, nil}, {false, nil, api.OK, nil}, {false, runs(2, 1), api.ErrFull, nil}, {true, runs(2, 8), api.OK, runs(2, 8)},
		{false, runs(math.MaxInt, 1), api.ErrArg, runs(2, 8)}, {true, runs(3, math.MaxInt), api.ErrArg, runs(2, 8)}, {false, runs(math.MinInt, 1), api.ErrArg, runs(2, 8)},
	} {
		e := api.OK
		if c.give {
			e = m.Give(c.l)
		} else {
			e = m.Hold(c.l)
		}
		what := fmt.Sprintf("call %d, with %s", i, told(c.l))
		expectErr(t, what, e, c.e)
		expectRuns(t, what, m.Free(), c.free)
		if m.Room() != Count(c.free) {
			t.Errorf("%s: Room %d", what, m.Room())
		}
	}
}

// P10.4: Hold and Give of lists of all kinds, many of them not valid, in maps of which none, all, and some sectors are taken.
func TestHoldGive(t *testing.T) {
	lists := append(someLists(), listsOf(edgeRuns(), 1)...)
	for _, c := range [][2]int{{0, most}, {2, 100}, {most, most}} {
		for i, l := range lists {
			m, w := made(t, c[0], c[1])
			doHold(t, m, w, l)
			doGive(t, m, w, Common(lists[len(lists)-1-i], runs(c[0], c[1]-c[0])))
			doHold(t, m, w, Common(l, runs(c[0], c[1]-c[0])))
			doGive(t, m, w, l)
		}
	}
}

// P10.5: what was taken or held and is given back, in whatever order and pieces, is free as before; no sector is taken twice.
func TestBack(t *testing.T) {
	for seed := range uint32(20) {
		m, w := made(t, 3, 400)
		next := anyNumbers(seed)
		for range 30 {
			doHold(t, m, w, runs(3+next(397), 1+next(4)))
		}
		before := m.Free()
		var taken []api.Run
		for range 25 {
			l := doTake(t, m, w, next(12))
			if len(Common(taken, l)) != 0 {
				t.Errorf("%s taken twice", told(Common(taken, l)))
			}
			if e := m.Hold(l); len(l) > 0 && e != api.ErrFull {
				t.Errorf("Hold of what was taken, %s: %d", told(l), e)
			}
			taken = append(taken, l...)
		}
		if Count(taken)+m.Room() != Count(before) || !slices.Equal(Join(taken, m.Free()), before) {
			t.Errorf("taken %s of %s leave %s", told(taken), told(before), told(m.Free()))
		}
		for len(taken) > 0 {
			i := next(len(taken))
			doGive(t, m, w, taken[i:i+1])
			taken = slices.Delete(taken, i, i+1)
		}
		expectRuns(t, "given back", m.Free(), before)
	}
}

// P10.4, P10.5: long histories, in small and in great maps.
func TestLongHistories(t *testing.T) {
	for seed, c := range [][2]int{{0, 1}, {0, 5}, {2, 20}, {0, 64}, {10, 300}, {most - 50, most}, {0, most}} {
		m, w := made(t, c[0], c[1])
		next := anyNumbers(uint32(seed))
		for range 400 {
			doAny(t, m, w, next)
		}
	}
}

// doAny does a call by what next returns.
func doAny(t *testing.T, m *Map, w *wordsMap, next func(int) int) {
	t.Helper()
	var l []api.Run
	for range next(4) {
		l = append(l, api.Run{At: w.from - 1 + next(w.sectors-w.from+2), Len: next(6)})
	}
	switch next(6) {
	case 0, 1:
		doTake(t, m, w, next(20)-1)
	case 2:
		doHold(t, m, w, l)
	case 3:
		doHold(t, m, w, Common(l, m.Free()))
	case 4:
		doGive(t, m, w, l)
	case 5:
		doGive(t, m, w, Minus(Common(l, runs(w.from, w.sectors-w.from)), m.Free()))
	}
}

// Rule 4: lists that were passed or returned, and are changed behind the call, change nothing of the map; a list that is passed stays as it is.
func TestMapMemory(t *testing.T) {
	m, w := made(t, 0, 100)
	spoil := func(l []api.Run) {
		l = l[:cap(l)]
		for i := range l {
			l[i] = api.Run{At: 50, Len: 9}
		}
		expectMap(t, "a list changed behind the call", m, w)
	}
	for _, l := range [][]api.Run{runs(40, 2, 3, 1, 20, 5), runs(97, 3), runs(60, 1, 62, 1), nil} {
		given := slices.Clone(l)
		doHold(t, m, w, l)
		expectRuns(t, "a list that was held", l, given)
		spoil(l)
		doGive(t, m, w, given[:len(given)/2])
		spoil(given)
		spoil(doTake(t, m, w, 7))
		spoil(m.Free())
		l = runs(98, 1, 2, 1, 98, 1)
		doHold(t, m, w, l)
		doGive(t, m, w, l)
		expectRuns(t, "a list that was rejected", l, runs(98, 1, 2, 1, 98, 1))
	}
}

// P10.4: two maps have nothing in common.
func TestTwoMaps(t *testing.T) {
	a, w := made(t, 0, 50)
	b, v := made(t, 0, 50)
	doTake(t, a, w, 5)
	doHold(t, b, v, runs(10, 3))
	expectMap(t, "the one", a, w)
	expectMap(t, "the other", b, v)
}

// P10.4: maps that New did not return, for every call.
func TestNotMade(t *testing.T) {
	m, w := made(t, 0, 50)
	doTake(t, m, w, 5)
	copied := *m
	var list [2]Map
	for what, m := range map[string]*Map{"nil": nil, "zero": {}, "new": new(Map), "element": &list[1], "copy": &copied} {
		for _, n := range []int{0, 1, -1, math.MaxInt} {
			l, e := m.Take(n)
			expectRuns(t, what, l, nil)
			expectErr(t, what+": Take", e, api.ErrNil)
		}
		for _, l := range [][]api.Run{nil, runs(0, 1), runs(10, 1), runs(0, 0), runs(-1, 5)} {
			expectErr(t, what+": Hold", m.Hold(l), api.ErrNil)
			expectErr(t, what+": Give", m.Give(l), api.ErrNil)
		}
		if m.Room() != 0 || len(m.Free()) != 0 {
			t.Errorf("%s: %s, %d", what, told(m.Free()), m.Room())
		}
	}
	expectMap(t, "the original", m, w)
}

func FuzzMap(f *testing.F) {
	f.Add(0, 0, "")
	f.Add(2, 100, "\x00\x01\x02\x03\x04\x05\x03\x01\x09\x02\x05\x03")
	f.Add(most, most, "abc")
	f.Fuzz(func(t *testing.T, from, sectors int, choices string) {
		if from < 0 || from > sectors || sectors > most {
			if m, e := New(from, sectors); m != nil || e != api.ErrRange {
				t.Fatalf("New(%d, %d): %v %d", from, sectors, m, e)
			}
			return
		}
		m, w := made(t, from, sectors)
		next := func(below int) int {
			if choices == "" {
				return 0
			}
			n := int(choices[0]) * 257 % below
			choices = choices[1:]
			return n
		}
		for range min(len(choices), 200) {
			doAny(t, m, w, next)
		}
	})
}
