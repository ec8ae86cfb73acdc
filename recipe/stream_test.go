package recipe

import (
	"fmt"
	"strings"
	"testing"

	"sheaf/api"
)

// someTexts returns texts of 0 to 9 bytes and of many, of several kinds of bytes.
func someTexts() []string {
	next := anyNumbers(3)
	var l []string
	for n := range 10 {
		l = append(l, anyText(next, n), strings.Repeat("\xff", n), strings.Repeat("\x00", n), strings.Repeat("a", n), "bcdefghij"[:n])
	}
	for _, n := range []int{10, 255, 256, 257, 1000, 4095, 4096, 4097} {
		l = append(l, anyText(next, n), strings.Repeat("\xff", n), strings.Repeat("\xff\x00\x00\x00", n/4), strings.Repeat("\x00\x00\xff\x00", n/4))
	}
	return l
}

// longTexts returns texts of lengths at the edge, among them those with the greatest weights that there are.
func longTexts() []string {
	var l []string
	for _, n := range []int{mostSize - 1, mostSize, mostSize + 1, mostSize + 4} {
		for _, s := range []string{"\xff", "\xff\x00\x00\x00", "\x00\xff\x00\x00", "\x00\x00\xff\x00", "\x00\x00\x00\xff", "\xff\xff\x00\x00", "\x00\x00\xff\xff"} {
			l = append(l, strings.Repeat(s, n/len(s)+1)[:n])
		}
	}
	return l
}

// P16.3: recipes of known texts, the document's example among them.
func TestOfKnown(t *testing.T) {
	r, e := Of("a", "\x01\x02\x03", 9)
	if want := (api.Recipe{Name: "a", Size: 3, Re: -2, Im: 2, Mans: []uint32{9}}); !sameByWords(r, want) || e != api.OK {
		t.Errorf("%s, %d", told(r), e)
	}
	if s, e := Put(r); len(s) != 4+12+5+2+4+4 || e != api.OK {
		t.Errorf("%q, %d", s, e)
	}
	for s, want := range map[string]api.Recipe{
		"":                                   {Name: "n", Mans: []uint32{1, mostID}},
		"\xff":                               {Name: "n", Size: 1, Re: 255, Mans: []uint32{1, mostID}},
		"\xff\xff":                           {Name: "n", Size: 2, Re: 255, Im: 255, Mans: []uint32{1, mostID}},
		"\xff\xff\xff":                       {Name: "n", Size: 3, Im: 255, Mans: []uint32{1, mostID}},
		"\xff\xff\xff\xff":                   {Name: "n", Size: 4, Mans: []uint32{1, mostID}},
		"\x00\x00\x00\x07":                   {Name: "n", Size: 4, Im: -7, Mans: []uint32{1, mostID}},
		"\x00\x00\x07":                       {Name: "n", Size: 3, Re: -7, Mans: []uint32{1, mostID}},
		"\x01\x02\x04\x08\x10\x20\x40\x80":   {Name: "n", Size: 8, Re: 17 - 68, Im: 34 - 136, Mans: []uint32{1, mostID}},
		"\x01\x02\x04\x08\x10\x20\x40\x80\t": {Name: "n", Size: 9, Re: 17 - 68 + 9, Im: 34 - 136, Mans: []uint32{1, mostID}},
	} {
		if r, e := Of("n", s, 1, mostID); !sameByWords(r, want) || e != api.OK {
			t.Errorf("%q: %s, %d, not %s", s, told(r), e, told(want))
		}
		expectFits(t, "known", want, s, true)
	}
}

// P16.3: texts of all lengths, with names and manifests that a recipe may have, and others.
func TestOf(t *testing.T) {
	for i, s := range append(someTexts(), longTexts()...) {
		expectOf(t, "a", s)
		expectOf(t, "a", s, mans(i%7)...)
		expectOf(t, "", s, 1)
		expectOf(t, "a", s, 0)
		if len(s) < 10 {
			for _, name := range edgeNames() {
				expectOf(t, name, s)
				expectOf(t, name, s, 1, 2, 3)
			}
		}
	}
	r, e := Of("long", strings.Repeat("\xff\xff\x00\x00", mostSize/4))
	if r.Re != 255<<18 || r.Im != 255<<18 || e != api.OK {
		t.Errorf("%s, %d", told(r), e)
	}
	if r, e := Of("long", strings.Repeat("\x00", mostSize+1)); !nothing(r) || e != api.ErrArg {
		t.Errorf("one byte too many: %s, %d", told(r), e)
	}
}

// P16.3: no manifests, many, and such as may not be, first, last and amid others.
func TestOfMans(t *testing.T) {
	for _, s := range []string{"", "abcdefg"} {
		for _, n := range edgeNumbers() {
			expectOf(t, "name", s, mans(n)...)
			if n == 0 {
				continue
			}
			for _, at := range []int{0, n / 2, n - 1} {
				for _, id := range edgeIDs() {
					l := mans(n)
					l[at] = id
					if r := expectOf(t, "name", s, l...); nothing(r) != (n > 1024 || id == 0 || id == 1<<32-1) {
						t.Errorf("%d at %d of %d: by the words %s", id, at, n, told(r))
					}
				}
			}
		}
		for _, l := range [][]uint32{nil, {}} {
			if r, e := Of("none", s, l...); r.Name != "none" || r.Size != len(s) || len(r.Mans) != 0 || e != api.OK {
				t.Errorf("no manifests: %s, %d", told(r), e)
			}
		}
	}
}

// P16.3: what is written into the list that was passed is not to be seen in the recipe.
func TestOfKeepsNothing(t *testing.T) {
	l := []uint32{1, 2, 3}
	r, e := Of("a", "b", l...)
	l[0], l[2] = 8, 9
	if want := (api.Recipe{Name: "a", Size: 1, Re: 'b', Mans: []uint32{1, 2, 3}}); !sameByWords(r, want) || e != api.OK {
		t.Errorf("%s, %d", told(r), e)
	}
}

// P16.3: texts that a recipe fits, and others, each with each; the document's weights tell them apart.
func TestFits(t *testing.T) {
	l := someTexts()
	for i, s := range l {
		r, _ := ofByWords("a", s, mans(i%4))
		for _, other := range l {
			if fitsByWords(r, other) != Fits(r, other) {
				t.Errorf("Fits %v for the recipe of %q and %q", Fits(r, other), cropped(s), cropped(other))
			}
		}
		expectFits(t, "its own", r, s, true)
		for at := range min(len(s), 12) {
			for by := range 255 {
				expectFits(t, "a byte changed", r, changedByte(s, at, s[at]^byte(1+by)), false)
			}
		}
	}
	for _, s := range longTexts() {
		r := api.Recipe{Name: "a", Size: len(s)}
		r.Re, r.Im = partsByWords(s)
		expectFits(t, "long", r, s, len(s) <= mostSize)
		expectFits(t, "shorter", r, s[1:], false)
	}
}

// P16.3: a text with the Size but another weight, with the weight but another Size, and bytes that change places.
func TestFitsApart(t *testing.T) {
	r, e := Of("a", "abcdefghi", 1)
	expectErr(t, "Of", e, api.OK)
	for s, want := range map[string]bool{
		"abcdefghi": true,
		"ebcdafghi": true, "abcdiefgh": false, "abchefgdi": true, "afcdebghi": true, "abgdefchi": true, "ibcdefgha": true, "ibcdafghe": true, "efghabcdi": true,
		"bacdefghi": false, "abcdefgih": false, "cbadefghi": false, "dbcaefghi": false, "abcdefgh": false, "abcdefghia": false, "abcdefghi\x00": false, "\x00abcdefghi": false,
		"\x00\x00\x00\x00abcdefghi": false, "": false, "ABCDEFGHI": false, "aacdefghi": false, "bbddefghi": true, "bbcdefghi": false, "abcdefghj": false,
	} {
		expectFits(t, s, r, s, want)
	}
	// The bytes weigh nothing, so that the Size alone tells.
	for n := range 10 {
		r, e := Of("a", strings.Repeat("\x00", n))
		expectErr(t, "Of", e, api.OK)
		for k := range 10 {
			expectFits(t, "zeros", r, strings.Repeat("\x00", k), n == k)
		}
	}
}

// P16.3: recipes that are not valid fit nothing, though they have the Size and the weight of a text.
func TestFitsWrong(t *testing.T) {
	for _, s := range []string{"", "\x01\x02\x03", "abcdefgh"} {
		good, e := Of("a", s, 1, 2, 3)
		expectErr(t, "Of", e, api.OK)
		expectFits(t, "good", good, s, true)
		wrong := map[string]func(r *api.Recipe){
			"no name":             func(r *api.Recipe) { r.Name = "" },
			"a long name":         func(r *api.Recipe) { r.Name = strings.Repeat("x", 49) },
			"1025 manifests":      func(r *api.Recipe) { r.Mans = mans(1025) },
			"another Size":        func(r *api.Recipe) { r.Size++ },
			"a Size too great":    func(r *api.Recipe) { r.Size += 1 << 32 },
			"another Re":          func(r *api.Recipe) { r.Re++ },
			"Re comes round":      func(r *api.Recipe) { r.Re += 1 << 32 },
			"another Im":          func(r *api.Recipe) { r.Im-- },
			"Im comes round":      func(r *api.Recipe) { r.Im -= 1 << 32 },
			"a Size that is less": func(r *api.Recipe) { r.Size-- },
		}
		for at := range good.Mans {
			for _, id := range []uint32{0, mostID + 1} {
				wrong[fmt.Sprintf("%d at %d", id, at)] = func(r *api.Recipe) { r.Mans = append([]uint32{}, r.Mans...); r.Mans[at] = id }
			}
		}
		for what, spoil := range wrong {
			r := good
			spoil(&r)
			expectFits(t, what, r, s, false)
		}
	}
	for _, n := range edgeInts() {
		expectFits(t, "a Size", api.Recipe{Name: "a", Size: n}, "", n == 0)
		expectFits(t, "a Re", api.Recipe{Name: "a", Re: n}, "", n == 0)
		expectFits(t, "an Im", api.Recipe{Name: "a", Im: n}, "", n == 0)
	}
	long := strings.Repeat("\x00", mostSize+1)
	expectFits(t, "too long", api.Recipe{Name: "a", Size: mostSize + 1}, long, false)
	expectFits(t, "just right", api.Recipe{Name: "a", Size: mostSize}, long[1:], true)
}
