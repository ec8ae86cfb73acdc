package weigh

import (
	"strings"
	"testing"
)

// scaleOf returns a new scale to which all parts were written.
func scaleOf(parts ...string) *Scale {
	w := New()
	for _, s := range parts {
		w.Write(s)
	}
	return w
}

// expect tells whether w is the scale of s, asking twice.
func expect(t *testing.T, what string, w *Scale, s string) {
	t.Helper()
	re, im := partsByWords(s)
	for range 2 {
		if w.Len() != len(s) || !is(w.Sum(), float64(re), float64(im)) {
			t.Errorf("%s, of %d bytes: Len %d, Sum %v, not %d%+di", what, len(s), w.Len(), w.Sum(), re, im)
		}
	}
}

// P4.4: New is a scale for the empty text, and stays it when that is written.
func TestNew(t *testing.T) {
	w := New()
	if w == nil {
		t.Fatal("New returned nil")
	}
	expect(t, "new", w, "")
	w.Write("")
	w.Write("")
	expect(t, "the empty text", w, "")
}

// P4.4: Write appends; Sum and Len may be asked at any time, and change nothing.
func TestWrite(t *testing.T) {
	for _, s := range texts() {
		w := New()
		w.Write(s)
		expect(t, "one text", w, s)
		w.Write("")
		expect(t, "the empty text behind it", w, s)
		w.Write("more")
		expect(t, "more behind it", w, s+"more")
	}
}

// P4.4: written byte by byte, with Sum and Len asked behind each.
func TestWriteBytes(t *testing.T) {
	s := anyText(300, 6)
	w := New()
	for i := range len(s) {
		expect(t, "byte by byte", w, s[:i])
		w.Write(s[i : i+1])
	}
	expect(t, "byte by byte", w, s)
}

// P4.4: two scales have nothing in common.
func TestTwoScales(t *testing.T) {
	a, b := New(), New()
	if a == b {
		t.Fatal("New returned one scale twice")
	}
	a.Write("first")
	expect(t, "the other", b, "")
	b.Write("x")
	a.Write(" and on")
	expect(t, "one", a, "first and on")
	expect(t, "the other", b, "x")
}

// P4.4: a nil Scale.
func TestNilScale(t *testing.T) {
	var w *Scale
	for _, s := range []string{"", "abc", anyText(100, 1)} {
		w.Write(s)
		expect(t, "nil", w, "")
	}
}

// P4.4: a Scale that New did not return, but that is not nil.
func TestNotMade(t *testing.T) {
	var list [2]Scale
	for what, w := range map[string]*Scale{"zero": {}, "new": new(Scale), "element": &list[1]} {
		expect(t, what, w, "")
		w.Write("")
		expect(t, what, w, "")
		w.Write("abc")
		expect(t, what, w, "abc")
		w.Write("dab")
		expect(t, what, w, "abcdab")
	}
	expect(t, "the element before", &list[0], "")
}

// joined is the weight of the concatenation of some texts, by the weights and lengths of these alone.
func joined(parts ...string) complex128 {
	var z complex128
	n := 0
	for _, s := range parts {
		z = Join(z, n, Of(s))
		n += len(s)
	}
	return z
}

// expectPieces holds the weight of a text in pieces against that of the whole.
func expectPieces(t *testing.T, parts ...string) {
	t.Helper()
	s := strings.Join(parts, "")
	re, im := partsByWords(s)
	if z := joined(parts...); !is(z, float64(re), float64(im)) || z != Of(s) {
		t.Errorf("joined of %d pieces: %v, not %d%+di", len(parts), z, re, im)
	}
	expect(t, "pieces", scaleOf(parts...), s)
}

// P4.5: every division of texts in two and in three.
func TestPieces(t *testing.T) {
	for n := range 41 {
		s := anyText(n, uint32(n))
		for j := range n + 1 {
			expectPieces(t, s[:j], s[j:])
			for i := range j + 1 {
				expectPieces(t, s[:i], s[i:j], s[j:])
			}
		}
	}
}

// P4.5: pieces of one length, from 1 byte on, and no pieces.
func TestManyPieces(t *testing.T) {
	s := anyText(3000, 8)
	for n := 1; n <= 100; n++ {
		var l []string
		for rest := s; rest != ""; rest = rest[min(n, len(rest)):] {
			l = append(l, rest[:min(n, len(rest))])
		}
		expectPieces(t, l...)
	}
	expectPieces(t)
	expectPieces(t, "", "", "")
}

// P4.5: long texts, in two pieces.
func TestLongPieces(t *testing.T) {
	for _, s := range texts() {
		for _, k := range []int{0, 1, 2, 3, len(s) / 2, len(s) - 1, len(s)} {
			k = max(0, min(k, len(s)))
			expectPieces(t, s[:k], s[k:])
		}
	}
}

// P4.5: joined from behind, a weight is the same.
func TestJoinedFromBehind(t *testing.T) {
	a, b, c := anyText(7, 1), anyText(6, 2), anyText(9, 3)
	front := Join(Join(Of(a), len(a), Of(b)), len(a)+len(b), Of(c))
	behind := Join(Of(a), len(a), Join(Of(b), len(b), Of(c)))
	if front != behind || front != Of(a+b+c) {
		t.Errorf("joined: %v from the front, %v from behind, %v of the whole", front, behind, Of(a+b+c))
	}
}

// P4.6: the four sums of the bytes give the weight.
func TestFourSums(t *testing.T) {
	for _, s := range texts() {
		var sums [4]int
		for i := range len(s) {
			sums[i%4] += int(s[i])
		}
		if z := Of(s); !is(z, float64(sums[0]-sums[2]), float64(sums[1]-sums[3])) {
			t.Errorf("Of %d bytes: %v; the four sums %d", len(s), z, sums)
		}
	}
}

// P4.6: bytes exchanged at a distance of a multiple of four leave the weight; those at another distance, if they are not equal, change it.
func TestExchange(t *testing.T) {
	s := anyText(60, 12)
	for j := range len(s) {
		for i := range j {
			b := []byte(s)
			b[i], b[j] = b[j], b[i]
			same := Of(string(b)) == Of(s)
			if want := (j-i)%4 == 0 || s[i] == s[j]; same != want {
				t.Errorf("bytes at %d and %d exchanged: the same weight %t, not %t", i, j, same, want)
			}
		}
	}
}

// FuzzPieces holds any text in any three pieces against the document's words.
func FuzzPieces(f *testing.F) {
	f.Add("", "", "")
	f.Add("a", "b", "c")
	f.Add(anyText(63, 1), "\x00", anyText(64, 2))
	f.Fuzz(func(t *testing.T, a, b, c string) { expectPieces(t, a, b, c) })
}
