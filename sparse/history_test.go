package sparse

import (
	"math"
	"slices"
	"testing"

	"sheaf/api"
)

// doAny does a call by what next returns, with few kinds of hooks and manifests.
func (c two) doAny(t *testing.T, next func(int) int, kinds, mans int) {
	t.Helper()
	anyHook := func() api.Fp { return api.Fp{0: byte(next(2)), 31: byte(next(kinds))} }
	switch next(8) {
	case 0:
		c.look(t, anyHook())
	case 1:
		c.peek(t, anyHook())
	case 2:
		c.drop(t, uint32(next(mans)))
	default:
		var l []api.Fp
		for range next(6) {
			l = append(l, anyHook())
		}
		c.put(t, uint32(next(mans)), l...)
	}
}

// P17.1 to P17.6: long histories, with bounds of all sizes.
func TestHistories(t *testing.T) {
	next := anyNumbers(1)
	for _, perHook := range []int{0, 1, 2, 3, 5, 17, mostPerHook} {
		for _, most := range []int{0, 1, 2, 3, 7, 20, 100, 1000, mostPairs} {
			for _, kinds := range []int{2, 12} {
				c := twoOf(t, perHook, most)
				for range 200 {
					c.doAny(t, next, kinds, 3+kinds)
				}
			}
		}
	}
}

// numbered returns n different fingerprints in increasing order.
func numbered(from, n int) []api.Fp {
	var l []api.Fp
	for i := from; i < from+n; i++ {
		l = append(l, api.Fp{1: byte(i >> 16), 2: byte(i >> 8), 3: byte(i)})
	}
	return l
}

// expectGreat holds how many pairs an index has, and that its hooks are these, each with this list.
func expectGreat(t *testing.T, what string, x *Index, hooks []api.Fp, mans ...uint32) {
	t.Helper()
	expectNumber(t, what+": Len", x.Len(), len(hooks)*len(mans))
	if !slices.Equal(x.Hooks(), hooks) {
		t.Errorf("%s: %d hooks, not %d, or others", what, len(x.Hooks()), len(hooks))
	}
	for _, h := range hooks {
		if !slices.Equal(x.Peek(h), mans) {
			t.Fatalf("%s: %x has %d", what, h, x.Peek(h))
		}
	}
}

// P17.2, P17.5: as many pairs as any index may have, then one more, each with a hook of its own.
func TestManyHooks(t *testing.T) {
	for _, most := range []int{mostPairs - 1, mostPairs} {
		x, _ := New(3, most)
		x.Put(5, numbered(0, most-1)...)
		expectGreat(t, "one less", x, numbered(0, most-1), 5)
		x.Put(5, numbered(most-1, 1)...)
		expectGreat(t, "full", x, numbered(0, most), 5)
		x.Put(5, numbered(most, 1)...)
		expectGreat(t, "one more", x, numbered(1, most), 5)
		x.Put(5, numbered(0, 2*most)...)
		expectGreat(t, "twice as many", x, numbered(most, most), 5)
		expectNumber(t, "Drop of another", x.Drop(6), 0)
		expectNumber(t, "Drop of all", x.Drop(5), most)
		expectGreat(t, "dropped", x, nil)
	}
}

// P17.2, P17.5: as many pairs as any index may have, in lists that are as long as any may be; one more takes a whole list.
func TestLongLists(t *testing.T) {
	x, _ := New(mostPerHook, mostPairs)
	hooks := numbered(0, mostPairs/mostPerHook)
	var mans []uint32
	for man := range uint32(mostPerHook) {
		x.Put(man, hooks...)
		mans = slices.Insert(mans, 0, man)
		expectGreat(t, "filled", x, hooks, mans...)
	}
	x.Put(mostPerHook, hooks...)
	mans = slices.Insert(mans[:mostPerHook-1], 0, mostPerHook)
	expectGreat(t, "one more each", x, hooks, mans...)
	x.Put(7, api.Fp{0: 1})
	expectNumber(t, "Len", x.Len(), mostPairs-mostPerHook+1)
	if l := x.Hooks(); len(l) != len(hooks) || l[0] != hooks[1] || l[len(l)-1] != (api.Fp{0: 1}) {
		t.Errorf("one more hook: %d hooks, the first of them %x", len(l), l[0])
	}
}

// P17.6: where there is just room for all that is put, all have it, as their first one; where a pair lacks room, the last hook of the set has.
func TestNewest(t *testing.T) {
	for n := 1; n <= 40; n++ {
		hooks := numbered(0, n)
		for _, lack := range []int{0, 1} {
			x, _ := New(2, 2*n-lack)
			for man := range uint32(2) {
				back := slices.Clone(hooks)
				slices.Reverse(back)
				x.Put(man, back...)
			}
			for i, h := range hooks {
				l := x.Peek(h)
				if lack == 0 && !slices.Equal(l, []uint32{1, 0}) {
					t.Errorf("%d hooks: hook %d has %d", n, i, l)
				}
				if i == n-1 && n > 1 && (len(l) == 0 || l[0] != 1) {
					t.Errorf("%d hooks, a pair too many: the last one has %d", n, l)
				}
			}
		}
	}
}

// spoilFps and spoilMans change a list, with all that its memory has room for.
func spoilFps(l []api.Fp) {
	l = l[:cap(l)]
	for i := range l {
		l[i] = api.Fp{9, 9, byte(i)}
	}
}

func spoilMans(l []uint32) {
	l = l[:cap(l)]
	for i := range l {
		l[i] = 99
	}
}

// Rule 4: lists that were passed stay as they are, and with those that were returned they are the caller's own: a change of them changes no answer.
func TestOwnMemory(t *testing.T) {
	next := anyNumbers(2)
	for _, bounds := range [][2]int{{1, 3}, {3, 9}, {3, 100}, {mostPerHook, mostPairs}} {
		c := twoOf(t, bounds[0], bounds[1])
		for man := range uint32(50) {
			l := slices.Grow([]api.Fp(nil), 20)
			for range next(7) {
				l = append(l, fp("abcdefgh"[next(8)]))
			}
			c.put(t, man%10, l...)
			spoilFps(l)
			c.expect(t, "hooks changed behind a Put")
			spoilFps(c.x.Hooks())
			for _, h := range fps("abcdefgh") {
				spoilMans(c.x.Peek(h))
				spoilMans(c.x.Look(h))
				c.w.look(h)
			}
			c.expect(t, "answers changed")
		}
	}
}

// Rule 4: what was returned stays as it is behind every later call.
func TestAnswersStay(t *testing.T) {
	next := anyNumbers(3)
	for _, bounds := range [][2]int{{1, 2}, {3, 9}, {3, 100}, {mostPerHook, mostPairs}} {
		c := twoOf(t, bounds[0], bounds[1])
		for range 40 {
			hooks := c.x.Hooks()
			wantHooks := slices.Clone(hooks)
			var lists, wantLists [][]uint32
			for _, h := range hooks {
				peeked, looked := c.x.Peek(h), c.x.Look(h)
				c.w.look(h)
				lists, wantLists = append(lists, peeked, looked), append(wantLists, slices.Clone(peeked), slices.Clone(looked))
			}
			for range 12 {
				c.doAny(t, next, 3, 5)
			}
			if !slices.Equal(hooks, wantHooks) || !slices.EqualFunc(lists, wantLists, slices.Equal) {
				t.Errorf("answers were changed by later calls: %x %d", hooks, lists)
			}
		}
	}
}

// Two indexes have nothing in common.
func TestTwoIndexes(t *testing.T) {
	a, b := twoOf(t, 2, 4), twoOf(t, 2, 4)
	next := anyNumbers(4)
	for range 100 {
		a.doAny(t, next, 3, 4)
		b.expect(t, "the other one")
		b.doAny(t, next, 3, 4)
		a.expect(t, "the one")
	}
}

// An index that New did not return, nil too, is empty, and stays so; the one that it is a copy of is as it was.
func TestNotMade(t *testing.T) {
	c := twoOf(t, 2, 10)
	c.put(t, 1, fps("ab")...)
	c.put(t, 2, fps("b")...)
	copied := *c.x
	var list [2]Index
	none, e := New(-1, math.MaxInt)
	expectNumber(t, "New", int(e), int(api.ErrArg))
	for what, x := range map[string]*Index{"nil": nil, "none": none, "zero": {}, "new": new(Index), "element": &list[1], "copy": &copied} {
		for range 2 {
			expectNumber(t, what+": Len", x.Len(), 0)
			expectNumber(t, what+": Hooks", len(x.Hooks()), 0)
			expectNumber(t, what+": Drop", x.Drop(1), 0)
			for _, h := range fps("ab0A") {
				expectList(t, what+": Look", x.Look(h), nil)
				expectList(t, what+": Peek", x.Peek(h), nil)
			}
			x.Put(3)
			x.Put(3, fps("a")...)
			x.Put(4, fps("cbcA0")...)
		}
		c.expect(t, what+": the original", fps("abcA0")...)
	}
}

func FuzzIndex(f *testing.F) {
	f.Add(2, 10, "")
	f.Add(1, 3, "abcdefghijklmnopqrstuvwxyz")
	f.Add(64, 65536, "\x03\x04\x01\x02\x05\x00\x01\x03\xff\x80\x07\x06\x05\x04\x03\x02\x01")
	f.Add(0, 7, "\x03\x05\x03\x01")
	f.Fuzz(func(t *testing.T, perHook, most int, choices string) {
		if perHook < 0 || perHook > mostPerHook || most < 0 || most > mostPairs {
			if x, e := New(perHook, most); x != nil || e != api.ErrArg {
				t.Fatalf("New(%d, %d): %v %d", perHook, most, x, e)
			}
			return
		}
		c := twoOf(t, perHook, most)
		next := func(below int) int {
			if choices == "" {
				return 0
			}
			n := int(choices[0]) % below
			choices = choices[1:]
			return n
		}
		for range min(len(choices), 200) {
			c.doAny(t, next, 5, 7)
		}
	})
}
