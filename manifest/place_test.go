package manifest

import (
	"fmt"
	"math"
	"slices"
	"testing"

	"sheaf/api"
)

// placedAt returns a manifest with entries at these places, which differ otherwise.
func placedAt(l ...api.Place) api.Manifest {
	m := listOf(8, len(l))
	for i, p := range l {
		m.Entries[i].Box, m.Entries[i].Slot = p.Box, p.Slot
	}
	return m
}

// pairs returns places, each by its Box and its Slot.
func pairs(numbers ...int) []api.Place {
	var l []api.Place
	for ; len(numbers) > 1; numbers = numbers[2:] {
		l = append(l, place(uint32(numbers[0]), numbers[1]))
	}
	return l
}

// edgePlaces returns places in order: of the least and the greatest Box and Slot, and ones beside them.
func edgePlaces() []api.Place {
	var l []api.Place
	for _, box := range []uint32{0, 1, 2, 255, 1 << 31, mostID, mostID + 1} {
		for _, slot := range []int{math.MinInt, math.MinInt + 1, -256, -1, 0, 1, 255, 256, 1 << 32, math.MaxInt - 1, math.MaxInt} {
			l = append(l, place(box, slot))
		}
	}
	return l
}

// allPlaces returns the places at which the entries of a manifest are, in their order.
func allPlaces(m api.Manifest) []api.Place {
	var l []api.Place
	for _, x := range m.Entries {
		l = append(l, place(x.Box, x.Slot))
	}
	return l
}

// P15.3: places, step by step.
func TestPlacesKnown(t *testing.T) {
	for _, c := range []struct{ l, want []api.Place }{
		{nil, nil}, {pairs(0, 0), pairs(0, 0)}, {pairs(2, 1, 1, 2), pairs(1, 2, 2, 1)}, {pairs(5, 9, 5, 3, 5, 9), pairs(5, 3, 5, 9)}, {pairs(9, 5, 3, 5, 9, 5), pairs(3, 5, 9, 5)},
		{pairs(1, 0, 1, -1, 1, math.MinInt, 1, math.MaxInt), pairs(1, math.MinInt, 1, -1, 1, 0, 1, math.MaxInt)}, {pairs(mostID+1, -1, 0, 7, mostID+1, -2), pairs(0, 7, mostID+1, -2, mostID+1, -1)},
		{slices.Repeat(pairs(4, 4), 300), pairs(4, 4)}, {pairs(1, 1<<32, 1, 0, 1, 1<<32+1, 1, 1), pairs(1, 0, 1, 1, 1, 1<<32, 1, 1<<32+1)},
	} {
		if l := Places(placedAt(c.l...)); !slices.Equal(l, c.want) {
			t.Errorf("Places of %v: %v, not %v", few(c.l), few(l), few(c.want))
		}
		expectAny(t, "known", placedAt(c.l...))
	}
	for _, m := range []api.Manifest{{}, {ID: 1}, {ID: 1, Entries: []api.Entry{}}} {
		if l := Places(m); len(l) != 0 {
			t.Errorf("Places of no entry: %v", l)
		}
	}
}

// P15.3: places at the edges, rising, falling and mixed, each once and several times.
func TestPlacesEdges(t *testing.T) {
	l := edgePlaces()
	falling := slices.Clone(l)
	slices.Reverse(falling)
	expect := func(what string, given []api.Place) {
		t.Helper()
		m := placedAt(given...)
		if got := Places(m); !slices.Equal(got, l) {
			t.Errorf("%s: Places: %v, not %v", what, few(got), few(l))
		}
		expectAny(t, what, m)
	}
	expect("rising", l)
	expect("falling", falling)
	expect("rising, and rising again", append(slices.Clone(l), l...))
	expect("falling, and rising", append(slices.Clone(falling), l...))
	next := anyNumbers(2)
	for range 20 {
		mixed := append(slices.Clone(l), l[next(len(l)):]...)
		for i := range mixed {
			at := next(len(mixed))
			mixed[i], mixed[at] = mixed[at], mixed[i]
		}
		expect("mixed", mixed)
	}
	for _, a := range l {
		for _, b := range l {
			m := placedAt(a, b)
			if got := Places(m); !slices.Equal(got, placesByWords(m)) {
				t.Errorf("Places of %v and %v: %v", a, b, got)
			}
		}
	}
}

// P15.3: places do not depend on what else the entries have.
func TestPlacesOthers(t *testing.T) {
	x, y := entry(1), entry(2)
	y.Box, y.Slot = x.Box, x.Slot
	x.Len = math.MinInt
	if l := Places(api.Manifest{Entries: []api.Entry{x, y, x}}); len(l) != 1 || l[0] != place(x.Box, x.Slot) {
		t.Errorf("Places: %v", l)
	}
}

// P15.4: moves, step by step.
func TestTurnKnown(t *testing.T) {
	a, b, c, d := place(1, 5), place(1, 6), place(2, 5), place(9, 200)
	l := []api.Place{a, b, a, c}
	for i, x := range []struct {
		moves []Move
		want  []api.Place
		n     int
	}{
		{nil, l, 0}, {[]Move{}, l, 0}, {[]Move{{a, d}}, []api.Place{d, b, d, c}, 2}, {[]Move{{b, d}}, []api.Place{a, d, a, c}, 1},
		// The first move from a place counts.
		{[]Move{{a, d}, {a, b}}, []api.Place{d, b, d, c}, 2}, {[]Move{{a, b}, {a, d}}, []api.Place{b, b, b, c}, 2}, {[]Move{{a, a}, {a, d}}, l, 2}, {[]Move{{a, d}, {c, b}, {a, a}, {c, d}, {a, c}}, []api.Place{d, b, d, b}, 3},
		// An entry is moved once, also if another move leads on, or back.
		{[]Move{{a, b}, {b, c}, {c, d}}, []api.Place{b, c, b, d}, 4}, {[]Move{{c, d}, {b, c}, {a, b}}, []api.Place{b, c, b, d}, 4}, {[]Move{{a, b}, {b, a}}, []api.Place{b, a, b, c}, 3}, {[]Move{{a, b}, {b, c}, {c, a}}, []api.Place{b, c, b, a}, 4},
		// Those that are at their To already count, too.
		{[]Move{{a, a}}, l, 2}, {[]Move{{a, a}, {b, b}, {c, c}}, l, 4}, {[]Move{{c, a}}, []api.Place{a, b, a, a}, 1},
		// From places that no entry has.
		{[]Move{{d, a}}, l, 0}, {[]Move{{d, d}}, l, 0}, {[]Move{{place(2, 6), d}, {place(0, 5), d}, {place(1, -5), d}, {place(1, 5+1<<32), d}, {place(5, 1), d}}, l, 0}, {[]Move{{d, c}, {c, d}}, []api.Place{a, b, a, d}, 1},
		{[]Move{{a, place(mostID+1, math.MinInt)}, {b, place(0, math.MaxInt)}}, []api.Place{place(mostID+1, math.MinInt), place(0, math.MaxInt), place(mostID+1, math.MinInt), c}, 3},
	} {
		m := placedAt(l...)
		got, n := Turn(m, x.moves...)
		if !slices.Equal(allPlaces(got), x.want) || n != x.n || got.ID != m.ID {
			t.Errorf("Turn %d, by %v: %s, %d", i, x.moves, told(got), n)
		}
		for k, y := range got.Entries {
			if y.Fp != m.Entries[k].Fp || y.Len != m.Entries[k].Len {
				t.Errorf("Turn %d, by %v: entry %d is another one", i, x.moves, k)
			}
		}
		expectTurn(t, "known", m, x.moves...)
	}
}

// P15.4: each pair of moves between few places.
func TestTurnPairs(t *testing.T) {
	l := pairs(1, 0, 1, 1, 2, 0, 2, 1)
	var moves []Move
	for _, from := range l {
		for _, to := range l {
			moves = append(moves, Move{from, to})
		}
	}
	for _, m := range []api.Manifest{placedAt(l...), placedAt(l[0], l[1], l[0]), placedAt(l[3]), {ID: 5}, {}} {
		for _, a := range moves {
			expectTurn(t, "one move", m, a)
			for _, b := range moves {
				expectTurn(t, "two moves", m, a, b)
				expectTurn(t, "three moves", m, b, a, Move{a.To, b.From})
			}
		}
	}
}

// P15.4: manifests that are not valid, with places at the edges, and moves from and to such.
func TestTurnEdges(t *testing.T) {
	l := edgePlaces()
	for _, id := range edgeIDs() {
		m := placedAt(append(l, l...)...)
		m.ID = id
		m.Entries[0].Len, m.Entries[1].Len = math.MinInt, math.MaxInt
		var on, back []Move
		for i, p := range l {
			on = append(on, Move{p, l[(i+1)%len(l)]})
			back = append(back, Move{p, l[(i+len(l)-1)%len(l)]})
		}
		expectTurn(t, "no move", m)
		once := expectTurn(t, "each to the next one", m, on...)
		if again := expectTurn(t, "each to the one ahead", once, back...); !sameByWords(again, m) {
			t.Errorf("on and back: %s", told(again))
		}
		expectTurn(t, "some", m, on[20:30]...)
		expectTurn(t, "on, then back", m, append(on[:40], back...)...)
	}
	for _, m := range []api.Manifest{{}, {ID: 7}, {ID: 7, Entries: []api.Entry{}}, {ID: mostID + 1}} {
		if got, n := Turn(m, Move{}, Move{From: place(1, 1)}); got.ID != m.ID || len(got.Entries) != 0 || n != 0 {
			t.Errorf("no entry: %s, %d", told(got), n)
		}
		expectTurn(t, "no entry", m, Move{}, Move{place(1, 1), place(2, 2)})
		expectTurn(t, "no entry, no move", m)
	}
	expectTurn(t, "the empty place", api.Manifest{Entries: make([]api.Entry, 3)}, Move{To: place(1, 1)})
}

// P15.4: any moves.
func TestTurnAny(t *testing.T) {
	next := anyNumbers(4)
	for range 300 {
		m := anyManifest(next)
		l := append(Places(m), edgePlaces()[:30]...)
		var moves []Move
		for range next(1 + next(400)) {
			moves = append(moves, Move{l[next(len(l))], l[next(len(l))]})
		}
		expectTurn(t, "any", m, moves...)
		m.Entries = append(m.Entries, m.Entries...)
		m.Entries[0].Slot = -1
		expectTurn(t, "any, not valid", m, moves...)
	}
}

// P15.4: what Turn returns shares no memory with the manifest, whether an entry was moved or not.
func TestTurnApart(t *testing.T) {
	m := placedAt(place(1, 1), place(2, 2))
	for _, moves := range [][]Move{nil, {{place(1, 1), place(3, 3)}}, {{place(5, 5), place(3, 3)}}, {{place(2, 2), place(2, 2)}}} {
		kept := api.Manifest{ID: m.ID, Entries: slices.Clone(m.Entries)}
		got, _ := Turn(m, moves...)
		want, _ := turnByWords(m, moves)
		for i := range m.Entries {
			m.Entries[i] = api.Entry{Len: 5}
		}
		for i := range moves {
			moves[i] = Move{place(4, 4), place(4, 4)}
		}
		if !sameByWords(got, want) {
			t.Errorf("it changes with what it was made from: %s", told(got))
		}
		m = kept
		// What stands behind the end of an answer is its own, too.
		_ = append(got.Entries, api.Entry{Len: 9})
		if !sameByWords(m, kept) {
			t.Errorf("the manifest changes with the answer: %s", told(m))
		}
	}
}

// P15.5: a manifest that is moved to places that no entry has, and back, is unchanged.
func TestTurnBack(t *testing.T) {
	next := anyNumbers(6)
	for i := range 200 {
		m := anyManifest(next)
		if i%3 == 0 {
			m.ID, m.Entries[0].Len, m.Entries[len(m.Entries)-1].Slot = 0, -5, math.MinInt
		}
		var to, back []Move
		for k, p := range Places(m) {
			if next(4) > 0 {
				to = append(to, Move{p, place(1<<20+uint32(k/10), k%10)})
				back = append(back, Move{to[len(to)-1].To, p})
			}
		}
		slices.Reverse(back)
		moved, n := Turn(m, to...)
		if len(to) > 0 && (n == 0 || sameByWords(moved, m)) {
			t.Errorf("by %v: %s, %d", few(to), told(moved), n)
		}
		expectTurn(t, "there", m, to...)
		again, backN := Turn(moved, back...)
		if !sameByWords(again, m) || !Same(again, m) || backN != n {
			t.Errorf("there and back: %s, %d and %d, not %s", told(again), n, backN, told(m))
		}
	}
}

// P15.3, P15.4: as many entries and moves as are not gone through for each other.
func TestMany(t *testing.T) {
	var m api.Manifest
	var moves []Move
	const many = 1 << 15
	for i := range many {
		m.Entries = append(m.Entries, api.Entry{Len: 1, Box: uint32(many - i), Slot: i % 3})
		moves = append(moves, Move{place(uint32(i+1), (many-i-1)%3), place(uint32(i), -i)})
	}
	l := Places(m)
	if len(l) != many || l[0] != place(1, (many-1)%3) || l[many-1] != place(many, 0) {
		t.Errorf("%d places: %v", len(l), few(l))
	}
	turned, n := Turn(m, moves...)
	if n != many || len(turned.Entries) != many {
		t.Fatalf("%d entries moved, of %d", n, len(turned.Entries))
	}
	for i, x := range turned.Entries {
		if box := many - i - 1; x.Box != uint32(box) || x.Slot != -box {
			t.Fatalf("entry %d is at %d/%d", i, x.Box, x.Slot)
		}
	}
	if n := Bytes(m); n != many {
		t.Errorf("Bytes: %d", n)
	}
	if l := Hooks(m, 5); len(l) != 1 {
		t.Errorf("%d hooks", len(l))
	}
}

func FuzzTurn(f *testing.F) {
	f.Add("", "")
	f.Add("abcaba", "abbccabd")
	f.Add("\x00\x01\x02\x03\xff\x10\x11", "\x00\x01\x01\x02\xff\x10\x10\xff")
	f.Fuzz(func(t *testing.T, where, moves string) {
		// Each byte is a place, four bits of its Box and four of its Slot; the greatest ones are the greatest that there are.
		places := func(s string) []api.Place {
			var l []api.Place
			for i := range len(s) {
				p := place(uint32(s[i]>>4), int(s[i]&15)-4)
				if s[i] == 255 {
					p = place(mostID+1, math.MaxInt)
				}
				l = append(l, p)
			}
			return l
		}
		var l []Move
		for ends := places(moves); len(ends) > 1; ends = ends[2:] {
			l = append(l, Move{ends[0], ends[1]})
		}
		m := placedAt(places(where)...)
		turned := expectTurn(t, "fuzz", m, l...)
		expectTurn(t, "fuzz, again", turned, l...)
		expectPlaces(t, fmt.Sprintf("fuzz, %q", where), m)
		expectPlaces(t, "fuzz, turned", turned)
	})
}
