package recipe

import (
	"fmt"
	"math"
	"slices"
	"strings"
	"testing"

	"sheaf/api"
)

// P16.4: joins of known texts.
func TestJoinKnown(t *testing.T) {
	a, b := api.Recipe{Name: "x", Size: 1, Re: 1, Mans: []uint32{4, 5}}, api.Recipe{Name: "y", Size: 2, Re: 2, Im: 3, Mans: []uint32{6}}
	if j, e := Join("z", a, b); !sameByWords(j, api.Recipe{Name: "z", Size: 3, Re: 1 - 3, Im: 2, Mans: []uint32{4, 5, 6}}) || e != api.OK {
		t.Errorf("a, b: %s, %d", told(j), e)
	}
	if j, e := Join("z", b, a); !sameByWords(j, api.Recipe{Name: "z", Size: 3, Re: 2 - 1, Im: 3, Mans: []uint32{6, 4, 5}}) || e != api.OK {
		t.Errorf("b, a: %s, %d", told(j), e)
	}
	if j, e := Join("z", a, a, a, a); !sameByWords(j, api.Recipe{Name: "z", Size: 4, Mans: []uint32{4, 5, 4, 5, 4, 5, 4, 5}}) || e != api.OK {
		t.Errorf("four times a: %s, %d", told(j), e)
	}
	if j, e := Join("z", b, b, b); !sameByWords(j, api.Recipe{Name: "z", Size: 6, Re: 2, Im: 3, Mans: []uint32{6, 6, 6}}) || e != api.OK {
		t.Errorf("three times b: %s, %d", told(j), e)
	}
}

// P16.4: none, and one, with names that a recipe may have, and others.
func TestJoinFew(t *testing.T) {
	for _, name := range edgeNames() {
		none := expectJoin(t, "none", name)
		if nothing(none) != (len(name) < 1 || len(name) > 48) {
			t.Errorf("%q: by the words %s", cropped(name), told(none))
		}
		for _, r := range someRecipes() {
			j := expectJoin(t, "one", name, r)
			if r.Name = name; validByWords(r) && !sameByWords(j, r) {
				t.Errorf("%q: the Join of one is %s, not %s", name, told(j), told(r))
			}
			expectJoin(t, "two", name, r, listOf(0))
		}
	}
	for _, l := range [][]api.Recipe{nil, {}} {
		if j, e := Join("none", l...); !sameByWords(j, api.Recipe{Name: "none"}) || e != api.OK || !Fits(j, "") {
			t.Errorf("none: %s, %d", told(j), e)
		}
	}
}

// expectJoined holds that the recipes of texts, joined, are the recipe of the concatenation.
func expectJoined(t *testing.T, texts ...string) {
	t.Helper()
	var l []api.Recipe
	var all []uint32
	for i, s := range texts {
		ids := mans(3 * i)[:i%4]
		r, e := Of(fmt.Sprint("part ", i), s, ids...)
		expectErr(t, "Of", e, api.OK)
		l, all = append(l, r), append(all, ids...)
	}
	whole := strings.Join(texts, "")
	j := expectJoin(t, "joined", "whole", l...)
	if of := expectOf(t, "whole", whole, all...); !sameByWords(j, of) {
		t.Errorf("%d texts: %s, not %s", len(texts), told(j), told(of))
	}
	expectFits(t, "joined", j, whole, true)
}

// P16.4, P16.6: texts of each length modulo 4, two, three and four of them.
func TestJoinTexts(t *testing.T) {
	next := anyNumbers(11)
	for a := range 10 {
		for b := range 10 {
			expectJoined(t, anyText(next, a), anyText(next, b))
			expectJoined(t, strings.Repeat("\xff", a), strings.Repeat("\xff", b))
			for c := range 5 {
				expectJoined(t, anyText(next, a), anyText(next, b), anyText(next, c))
				expectJoined(t, anyText(next, c), anyText(next, a), "", anyText(next, b))
			}
		}
	}
	l := someTexts()
	for i, s := range l {
		expectJoined(t, s)
		expectJoined(t, s, s, s, s, s)
		expectJoined(t, l[i:min(i+7, len(l))]...)
	}
	expectJoined(t, l...)
}

// P16.6: texts divided anywhere.
func TestJoinPieces(t *testing.T) {
	next := anyNumbers(12)
	for range 300 {
		s := anyText(next, next(1+next(3000)))
		var parts []string
		for s != "" {
			n := 1 + next(len(s))
			parts, s = append(parts, s[:n]), s[n:]
		}
		expectJoined(t, parts...)
	}
	whole := strings.Repeat("\xff\xff\x00\x00", mostSize/4)
	for _, n := range []int{0, 1, 2, 3, mostSize / 2, mostSize - 1, mostSize} {
		expectJoined(t, whole[:n], whole[n:])
	}
}

// P16.4: the joins of joins are those of their parts.
func TestJoinOfJoins(t *testing.T) {
	next := anyNumbers(13)
	for range 100 {
		var l []api.Recipe
		for i := range 6 {
			r, e := Of("a", anyText(next, next(9)), mans(i)...)
			expectErr(t, "Of", e, api.OK)
			l = append(l, r)
		}
		all := expectJoin(t, "all", "all", l...)
		for i := range l {
			first := expectJoin(t, "first", "first", l[:i]...)
			second := expectJoin(t, "second", "second", l[i:]...)
			if j := expectJoin(t, "both", "all", first, second); !sameByWords(j, all) {
				t.Errorf("%s, not %s", told(j), told(all))
			}
		}
	}
}

// P16.4: a recipe that is not valid, alone, first, last and amid others.
func TestJoinWrong(t *testing.T) {
	for _, wrong := range []api.Recipe{
		{}, {Name: strings.Repeat("x", 49)}, {Name: "a", Size: -1}, {Name: "a", Size: 1<<20 + 1}, {Name: "a", Size: math.MinInt}, {Name: "a", Size: math.MaxInt},
		{Name: "a", Re: 1 << 31}, {Name: "a", Re: -1<<31 - 1}, {Name: "a", Im: 1 << 31}, {Name: "a", Im: -1<<31 - 1}, {Name: "a", Re: math.MinInt}, {Name: "a", Im: math.MaxInt},
		{Name: "a", Mans: []uint32{0}}, {Name: "a", Mans: []uint32{1, mostID + 1}}, {Name: "a", Mans: []uint32{0, 1}}, {Name: "a", Mans: mans(1025)},
	} {
		for _, others := range []int{0, 1, 2, 3, 7} {
			for at := range others + 1 {
				var l []api.Recipe
				for i := range others {
					l = append(l, listOf(i))
				}
				if j := expectJoin(t, "wrong", "w", slices.Insert(l, at, wrong)...); !nothing(j) {
					t.Errorf("by the words %s", told(j))
				}
			}
		}
		// It would be valid together with another one.
		for _, other := range []api.Recipe{{Name: "a", Size: 1}, {Name: "a", Re: -1}, {Name: "a", Re: 1}, {Name: "a", Im: -1}, {Name: "a", Im: 1}} {
			expectJoin(t, "wrong", "w", wrong, other)
			expectJoin(t, "wrong", "w", other, wrong)
		}
	}
}

// P16.4: so many manifests, or such Sizes, that the result alone is not valid, and as many as there may be.
func TestJoinLimits(t *testing.T) {
	for _, n := range []int{0, 1, 512, 1023, 1024} {
		for _, k := range []int{0, 1, 2, 511, 512, 513, 1023, 1024} {
			a, b := listOf(n), listOf(k)
			if j := expectJoin(t, "manifests", "a", a, b); nothing(j) != (n+k > 1024) {
				t.Errorf("%d and %d manifests: by the words %s", n, k, told(j))
			}
			expectJoin(t, "manifests", "a", listOf(0), a, listOf(0), b)
			expectJoin(t, "manifests", "a", a, b, listOf(1))
		}
	}
	for _, n := range []int{0, 1, mostSize / 2, mostSize - 1, mostSize} {
		for _, k := range []int{0, 1, 2, mostSize / 2, mostSize/2 + 1, mostSize - 1, mostSize} {
			a, b := api.Recipe{Name: "a", Size: n, Re: 1, Im: 2}, api.Recipe{Name: "b", Size: k, Re: 3, Im: 4}
			if j := expectJoin(t, "Sizes", "a", a, b); nothing(j) != (n+k > mostSize) {
				t.Errorf("Sizes %d and %d: by the words %s", n, k, told(j))
			}
			expectJoin(t, "Sizes", "a", a, b, api.Recipe{Name: "c", Size: 1})
		}
	}
	one := api.Recipe{Name: "one", Mans: []uint32{5}}
	for _, n := range []int{1023, 1024, 1025, 3000} {
		expectJoin(t, "ones", "a", slices.Repeat([]api.Recipe{one}, n)...)
	}
	// Of none of these is there a result, however many there are.
	for _, r := range []api.Recipe{listOf(1024), {Name: "a", Size: mostSize}} {
		l := slices.Repeat([]api.Recipe{r}, 300000)
		if j, e := Join("many", l...); !nothing(j) || e != api.ErrArg {
			t.Errorf("many: %s, %d", told(j), e)
		}
	}
}

// P16.4: Res and Ims at the edges, of which the sums are within the bounds, or beyond them, at the end or in between.
func TestJoinParts(t *testing.T) {
	edges := []int{-1 << 31, -1<<31 + 1, -1 << 30, -1, 0, 1, 1 << 30, 1<<31 - 2, 1<<31 - 1}
	for _, re := range edges {
		for _, im := range edges {
			for n := range 5 {
				a := api.Recipe{Name: "a", Size: n, Re: re, Im: im}
				for _, x := range edges {
					b, c := api.Recipe{Name: "b", Size: n, Re: x}, api.Recipe{Name: "c", Size: 1, Im: x}
					expectJoin(t, "parts", "p", a, b)
					expectJoin(t, "parts", "p", a, c)
					expectJoin(t, "parts", "p", c, a)
					expectJoin(t, "parts", "p", a, b, c)
				}
			}
		}
	}
	most, least, one := api.Recipe{Name: "m", Re: 1<<31 - 1}, api.Recipe{Name: "l", Re: -1 << 31}, api.Recipe{Name: "o", Re: 1}
	for what, l := range map[string][]api.Recipe{
		"too great": {most, one}, "too small": {least, {Name: "o", Re: -1}}, "turned too great": {{Name: "s", Size: 1}, {Name: "i", Im: -1 << 31}}, "turned twice": {{Name: "s", Size: 2}, least}, "an Im": {{Name: "s", Size: 3}, least},
	} {
		if j, e := Join("p", l...); !nothing(j) || e != api.ErrArg {
			t.Errorf("%s: %s, %d", what, told(j), e)
		}
		if j := expectJoin(t, what, "p", l...); !nothing(j) {
			t.Errorf("%s: by the words %s", what, told(j))
		}
	}
	for what, l := range map[string][]api.Recipe{
		"too great in between": {most, one, most, most, least, least, least}, "and turned": {most, one, {Name: "s", Size: 2}, one},
	} {
		if j, e := Join("p", l...); j.Name != "p" || e != api.OK {
			t.Errorf("%s: %s, %d", what, told(j), e)
		}
		if j := expectJoin(t, what, "p", l...); nothing(j) {
			t.Errorf("%s: by the words none", what)
		}
	}
}

// P16.4: recipes of all kinds.
func TestJoinAny(t *testing.T) {
	next := anyNumbers(14)
	for range 2000 {
		var l []api.Recipe
		for range next(5) {
			r := anyRecipe(next)
			if next(3) > 0 {
				r.Size, r.Re, r.Im, r.Mans = r.Size>>3, r.Re>>4, r.Im>>4, r.Mans[:len(r.Mans)/3]
			}
			l = append(l, r)
		}
		expectJoin(t, "any", "any", l...)
	}
}

// P16.4: what is written into the recipes that were passed is not to be seen in the result.
func TestJoinKeepsNothing(t *testing.T) {
	for _, n := range []int{1, 2, 3} {
		var l []api.Recipe
		for i := range n {
			l = append(l, api.Recipe{Name: "a", Size: i, Mans: []uint32{uint32(10*i) + 1, uint32(10*i) + 2}})
		}
		want, _ := joinByWords("j", l)
		j, e := Join("j", l...)
		for i := range l {
			scribble(l[i])
			l[i] = api.Recipe{}
		}
		if !sameByWords(j, want) || e != api.OK {
			t.Errorf("%s, %d, not %s", told(j), e, told(want))
		}
	}
}

func FuzzJoin(f *testing.F) {
	f.Add("a", "abc", "de", uint16(1), uint16(2), 0, 0)
	f.Add("whole", "", strings.Repeat("\xff", 9), uint16(1024), uint16(0), 1<<31-1, -1<<31)
	f.Add("", "x", "y", uint16(600), uint16(600), math.MaxInt, math.MinInt)
	f.Fuzz(func(t *testing.T, name, s, more string, m, n uint16, re, im int) {
		a := expectOf(t, "a", s, mans(int(m)%1030)...)
		b := expectOf(t, "b", more, mans(int(n)%1030)...)
		j := expectJoin(t, "fuzz", name, a, b)
		if !nothing(j) {
			expectFits(t, "fuzz", j, s+more, true)
		}
		expectJoin(t, "fuzz", name, b, a, b)
		expectFits(t, "fuzz", a, more, fitsByWords(a, more))
		a.Re, a.Im, b.Re, b.Im = re, im, im, re
		expectJoin(t, "fuzz, any parts", name, a, b)
		a.Re, a.Im, b.Re, b.Im = re>>32, im>>32, im>>33, re>>33
		expectJoin(t, "fuzz, likely parts", name, a, b, a)
		a.Size, b.Size = int(m)<<4, int(n)<<4+1
		expectJoin(t, "fuzz, Sizes", name, a, b, a)
	})
}
