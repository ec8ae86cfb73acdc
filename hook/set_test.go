package hook

import (
	"math"
	"slices"
	"testing"

	"sheaf/api"
)

// fps returns fingerprints by letters: each has the letter as its last byte, so that a is less than b; a capital letter is a hook for no bits, its first byte 255.
func fps(letters string) []api.Fp {
	var l []api.Fp
	for i := range len(letters) {
		f := with(api.Fp{}, 31, letters[i])
		if letters[i] < 'a' {
			f[0] = 255
		}
		l = append(l, f)
	}
	return l
}

// lettersOf returns the letters of fingerprints.
func lettersOf(l []api.Fp) string {
	s := ""
	for _, f := range l {
		s += string([]byte{f[31]})
	}
	return s
}

// anyFps returns n fingerprints of which only kinds are different; another seed gives other ones.
func anyFps(n int, kinds, seed uint32) []api.Fp {
	var l []api.Fp
	for range n {
		seed = seed*1664525 + 1013904223
		f := anyFp((seed >> 8) % kinds)
		clear(f[:(seed>>4)%3])
		l = append(l, f)
	}
	return l
}

// someLists returns lists: empty, of one, in order, in the opposite order, with duplicates of all kinds.
func someLists() [][]api.Fp {
	l := [][]api.Fp{nil, {}, {{}}, {allOnes}, {{}, {}}, {allOnes, {}}, {{}, allOnes, {}}, someFps()}
	for _, s := range []string{
		"a", "ab", "ba", "aa", "abc", "cba", "aab", "aba", "baa", "abb", "aaaa", "abab", "bbaa", "hgfedcba", "abcdefgh",
		"aabbccdd", "abcdabcd", "ABab", "BAba", "zAzA", "aXbYcZ", "ZZZ", "zzzzzzzzzzzzzzzzzzz", "bdfh", "aceg", "acegbdfh",
	} {
		l = append(l, fps(s))
	}
	for seed := range uint32(12) {
		l = append(l, anyFps(int(seed)*7, 5, seed), anyFps(int(seed)*40, 1000, seed))
	}
	return l
}

// isBefore goes byte by byte.
func isBefore(a, b api.Fp) bool {
	for i := range a {
		if a[i] != b[i] {
			return a[i] < b[i]
		}
	}
	return false
}

// setByWords returns those for which keep holds, by putting each in its place, if it isn't there.
func setByWords(l []api.Fp, keep func(api.Fp) bool) []api.Fp {
	var set []api.Fp
	for _, f := range l {
		at := 0
		for at < len(set) && isBefore(set[at], f) {
			at++
		}
		if keep(f) && (at == len(set) || set[at] != f) {
			set = slices.Insert(set, at, f)
		}
	}
	return set
}

// has looks at each element.
func has(l []api.Fp, f api.Fp) bool {
	for _, g := range l {
		if g == f {
			return true
		}
	}
	return false
}

func all(api.Fp) bool { return true }

// expectSet holds a set against the one that is wanted.
func expectSet(t *testing.T, what string, got, want []api.Fp) {
	t.Helper()
	if !slices.Equal(got, want) {
		t.Errorf("%s: %x, not %x", what, got, want)
	}
}

// P7.3: sets of lists in any order, with duplicates; of no argument, the empty one.
func TestSet(t *testing.T) {
	if l := Set(); len(l) != 0 {
		t.Errorf("Set of nothing: %x", l)
	}
	for in, want := range map[string]string{
		"a": "a", "ab": "ab", "ba": "ab", "aa": "a", "aab": "ab", "aba": "ab", "abcabc": "abc", "cba": "abc", "dadada": "ad", "bAaB": "abAB", "zzzz": "z",
	} {
		if s := lettersOf(Set(fps(in)...)); s != want {
			t.Errorf("Set(%s): %s, not %s", in, s, want)
		}
	}
	for _, l := range someLists() {
		expectSet(t, "Set", Set(l...), setByWords(l, all))
	}
	first, last := with(filled(7), 0, 6), with(filled(7), 31, 8)
	expectSet(t, "Set", Set(last, filled(7), first, last), []api.Fp{first, filled(7), last})
}

// P7.3: the set of a set is that set.
func TestSetOfSet(t *testing.T) {
	for _, l := range someLists() {
		set := Set(l...)
		expectSet(t, "Set of a set", Set(set...), set)
		slices.Reverse(l)
		expectSet(t, "Set of the opposite order", Set(l...), set)
	}
}

// P7.3: elements at the first and the last place and between; none of an empty list.
func TestHas(t *testing.T) {
	for _, l := range someLists() {
		for _, f := range append(someFps(), fps("abyzABYZ")...) {
			if Has(l, f) != has(l, f) {
				t.Errorf("Has(%x, %x): %v", l, f, Has(l, f))
			}
		}
		for _, f := range l {
			if !Has(l, f) || Has(l, with(f, 0, f[0]+99)) != has(l, with(f, 0, f[0]+99)) {
				t.Errorf("Has(%x, %x): %v", l, f, Has(l, f))
			}
		}
	}
	f := filled(7)
	if Has(nil, api.Fp{}) || Has([]api.Fp{f}, with(f, 0, 8)) || Has([]api.Fp{f}, with(f, 31, 8)) || !Has([]api.Fp{{}, f}, f) {
		t.Errorf("Has: not as a whole")
	}
}

// P7.3: the set of the hooks of a list, for each number of bits.
func TestOf(t *testing.T) {
	if l := Of([]api.Fp{{128}, {0, 32}, {0, 32}, {0, 16}}, 10); !slices.Equal(l, []api.Fp{{0, 16}, {0, 32}}) {
		t.Errorf("Of for 10 bits: %x", l)
	}
	for in, want := range map[string]string{"": "", "abc": "abc", "cAbBa": "abc", "ABC": "", "aAa": "a", "Aaaa": "a"} {
		if s := lettersOf(Of(fps(in), 1)); s != want {
			t.Errorf("Of(%s, 1): %s, not %s", in, s, want)
		}
	}
	for _, l := range someLists() {
		for _, n := range []int{math.MinInt, -1, 0, 1, 2, 7, 8, 9, 16, 247, 248, 249, 250, 255, 256, 257, math.MaxInt} {
			expectSet(t, "Of", Of(l, n), setByWords(l, func(f api.Fp) bool { return isByWords(f, n) }))
		}
	}
}

// P7.4: for 0 bits all are hooks, for fewer bits no fewer.
func TestOfFewer(t *testing.T) {
	for _, l := range someLists() {
		expectSet(t, "Of for 0 bits", Of(l, 0), Set(l...))
		for n := 1; n <= 256; n += 5 {
			if more := Of(l, n-1); len(Minus(Of(l, n), more)) != 0 {
				t.Errorf("hooks for %d bits that are none for %d: %x", n, n-1, Minus(Of(l, n), more))
			}
		}
	}
}

// P7.3: what two lists have in common, and what one has that the other hasn't; duplicates count once.
func TestCommonMinusKnown(t *testing.T) {
	for _, c := range []struct {
		a, b   string
		common int
		minus  string
	}{
		{"", "", 0, ""}, {"a", "", 0, "a"}, {"", "a", 0, ""}, {"a", "a", 1, ""}, {"a", "b", 0, "a"}, {"b", "a", 0, "b"},
		{"abc", "abc", 3, ""}, {"abc", "cba", 3, ""}, {"ace", "bdf", 0, "ace"}, {"bdf", "ace", 0, "bdf"},
		{"abcd", "bc", 2, "ad"}, {"bc", "abcd", 2, ""}, {"abc", "bcd", 2, "a"}, {"dcb", "cba", 2, "d"},
		{"aaa", "aa", 1, ""}, {"aab", "a", 1, "b"}, {"aba", "bb", 1, "a"}, {"zyxzyx", "yy", 1, "xz"}, {"aaaa", "bbbb", 0, "a"},
		{"aA", "A", 1, "a"}, {"Aa", "a", 1, "A"}, {"cabcab", "bAbA", 1, "ac"}, {"abcdefgh", "h", 1, "abcdefg"}, {"abcdefgh", "a", 1, "bcdefgh"},
	} {
		if n := Common(fps(c.a), fps(c.b)); n != c.common {
			t.Errorf("Common(%s, %s): %d, not %d", c.a, c.b, n, c.common)
		}
		if s := lettersOf(Minus(fps(c.a), fps(c.b))); s != c.minus {
			t.Errorf("Minus(%s, %s): %s, not %s", c.a, c.b, s, c.minus)
		}
	}
}

// P7.3: likewise of all lists, by looking at each element.
func TestCommonMinus(t *testing.T) {
	for _, a := range someLists() {
		for _, b := range someLists() {
			both := setByWords(a, func(f api.Fp) bool { return has(b, f) })
			if n := Common(a, b); n != len(both) {
				t.Errorf("Common(%x, %x): %d, not %d", a, b, n, len(both))
			}
			expectSet(t, "Minus", Minus(a, b), setByWords(a, func(f api.Fp) bool { return !has(b, f) }))
		}
	}
}

// P7.3: no call changes a list, and no result shares memory with one.
func TestNewMemory(t *testing.T) {
	for _, l := range someLists() {
		other := append(anyFps(20, 3, 9), l...)
		// Room behind the elements, which a call might write to.
		in := append(slices.Clone(l), allOnes, allOnes)[:len(l)]
		before, otherBefore := slices.Clone(in), slices.Clone(other)
		for _, call := range []func() []api.Fp{
			func() []api.Fp { return Set(in...) },
			func() []api.Fp { return Of(in, 0) },
			func() []api.Fp { return Of(in, 1) },
			func() []api.Fp { return Minus(in, nil) },
			func() []api.Fp { return Minus(in, other) },
			func() []api.Fp { return Minus(other, in) },
			func() []api.Fp { Common(in, other); Has(in, allOnes); return nil },
		} {
			got := call()
			for i := range got[:cap(got)] {
				got[:cap(got)][i] = filled(99)
			}
			if !slices.Equal(in, before) || !slices.Equal(other, otherBefore) {
				t.Fatalf("a list was changed: %x, %x", in, other)
			}
			if behind := in[:len(in)+2]; behind[len(in)] != allOnes || behind[len(in)+1] != allOnes {
				t.Fatalf("what stands behind a list was changed: %x", behind)
			}
		}
	}
}

// P7.3: long lists, with none, some and all in common, in no more than a moment.
func TestLong(t *testing.T) {
	var even, odd, each []api.Fp
	for i := range 40000 {
		f := api.Fp{byte(i * 7), byte(i >> 8), byte(i)}
		each = append(each, f)
		if i%2 == 0 {
			even = append(even, f, f)
		} else {
			odd = append(odd, f)
		}
	}
	if n := len(Set(append(even, each...)...)); n != 40000 {
		t.Errorf("Set: %d", n)
	}
	if Common(even, odd) != 0 || Common(each, even) != 20000 || Common(even, each) != 20000 || Common(each, each) != 40000 {
		t.Errorf("Common: %d %d %d", Common(even, odd), Common(each, even), Common(each, each))
	}
	expectSet(t, "Minus", Minus(each, even), Set(odd...))
	if l := Minus(even, each); len(l) != 0 {
		t.Errorf("Minus: %d", len(l))
	}
}

func FuzzSet(f *testing.F) {
	f.Add("", "", 0)
	f.Add("cabAca", "bbxA", 1)
	f.Fuzz(func(t *testing.T, first, second string, bits int) {
		a, b := fps(first), fps(second)
		both := setByWords(a, func(f api.Fp) bool { return has(b, f) })
		if Common(a, b) != len(both) || Common(b, a) != len(both) {
			t.Fatalf("Common(%q, %q): %d", first, second, Common(a, b))
		}
		expectSet(t, "Set", Set(a...), setByWords(a, all))
		expectSet(t, "Minus", Minus(a, b), setByWords(a, func(f api.Fp) bool { return !has(b, f) }))
		expectSet(t, "Of", Of(a, bits), setByWords(a, func(f api.Fp) bool { return isByWords(f, bits) }))
	})
}
