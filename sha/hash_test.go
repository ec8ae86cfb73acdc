package sha

import (
	"crypto/sha256"
	"strings"
	"testing"

	"sheaf/api"
)

// hashOf returns a new hash to which all parts were written.
func hashOf(t *testing.T, parts ...string) *Hash {
	t.Helper()
	h := New()
	for _, s := range parts {
		if e := h.Write(s); e != api.OK {
			t.Fatalf("Write(%q): %d", s, e)
		}
	}
	return h
}

// expect tells whether h is the hash of s, asking twice.
func expect(t *testing.T, h *Hash, s string) {
	t.Helper()
	want := api.Fp(sha256.Sum256([]byte(s)))
	for range 2 {
		if h.Len() != len(s) || h.Sum() != want {
			t.Errorf("a hash of %d bytes: Len %d, Sum %x, not %x", len(s), h.Len(), h.Sum(), want)
		}
	}
}

// P3.3: New is the hash of the empty text, and stays it when that is written.
func TestNew(t *testing.T) {
	h := New()
	expect(t, h, "")
	for range 3 {
		if e := h.Write(""); e != api.OK {
			t.Errorf("Write of the empty text: %d", e)
		}
		expect(t, h, "")
	}
	if h.Sum() != Sum() {
		t.Errorf("the hash of the empty text: %x", h.Sum())
	}
}

// P3.3: Write appends; Len and Sum may be asked at any time, and change nothing.
func TestWrite(t *testing.T) {
	h := hashOf(t, "a")
	expect(t, h, "a")
	h.Write("bc")
	expect(t, h, "abc")
	h.Write("")
	expect(t, h, "abc")
	h.Write(strings.Repeat("d", 61))
	expect(t, h, "abc"+strings.Repeat("d", 61))
	h.Write("e")
	expect(t, h, "abc"+strings.Repeat("d", 61)+"e")
}

// P3.3: written byte by byte, with Len and Sum asked behind each.
func TestWriteBytes(t *testing.T) {
	s := anyText(300, 6)
	h := New()
	for i := range len(s) {
		expect(t, h, s[:i])
		if e := h.Write(s[i : i+1]); e != api.OK {
			t.Fatalf("Write of the byte at %d: %d", i, e)
		}
	}
	expect(t, h, s)
}

// P3.3: texts of all short lengths and of some long ones, in one Write, and one more behind them.
func TestWriteTexts(t *testing.T) {
	for _, s := range texts() {
		h := hashOf(t, s)
		expect(t, h, s)
		h.Write("and more")
		expect(t, h, s+"and more")
	}
}

// P3.3: two hashes have nothing in common.
func TestTwoHashes(t *testing.T) {
	a, b := New(), New()
	if a == b {
		t.Fatal("New returned one hash twice")
	}
	a.Write("first")
	expect(t, b, "")
	b.Write(anyText(100, 2))
	a.Write(" and on")
	expect(t, a, "first and on")
	expect(t, b, anyText(100, 2))
}

// P3.3: what Sum returned is the caller's: changing it changes no hash.
func TestSumIsNew(t *testing.T) {
	h := hashOf(t, "abc")
	f := h.Sum()
	f[0] = 0
	clear(f[16:])
	expect(t, h, "abc")
}

// P3.3: a nil Hash, and a Hash that New did not return.
func TestNotMade(t *testing.T) {
	made := hashOf(t, "abc")
	copied := *made
	for name, h := range map[string]*Hash{"nil": nil, "zero": {}, "new": new(Hash), "copied": &copied} {
		for _, s := range []string{"", "abc", anyText(100, 1)} {
			if e := h.Write(s); e != api.ErrNil {
				t.Errorf("%s: Write(%q): %d", name, s, e)
			}
			if h.Len() != 0 || h.Sum() != (api.Fp{}) {
				t.Errorf("%s: Len %d, Sum %x", name, h.Len(), h.Sum())
			}
		}
	}
	expect(t, made, "abc")
}

// P3.4: every division of texts in two, by Sum and by a Hash.
func TestTwoPieces(t *testing.T) {
	for _, n := range edges() {
		s := anyText(n, 3)
		want := Sum(s)
		for i := range n + 1 {
			if f := Sum(s[:i], s[i:]); f != want {
				t.Errorf("Sum of %d and %d bytes: %x, not %x", i, n-i, f, want)
			}
			if h := hashOf(t, s[:i], s[i:]); h.Sum() != want || h.Len() != n {
				t.Errorf("a hash of %d and %d bytes: %x, not %x", i, n-i, h.Sum(), want)
			}
		}
	}
}

// P3.4: every division of a text of two blocks and more in three.
func TestThreePieces(t *testing.T) {
	s := anyText(140, 8)
	want := Sum(s)
	for j := range len(s) + 1 {
		for i := range j + 1 {
			if f := Sum(s[:i], s[i:j], s[j:]); f != want {
				t.Errorf("Sum, divided at %d and %d: %x, not %x", i, j, f, want)
			}
			if h := hashOf(t, s[:i], s[i:j], s[j:]); h.Sum() != want {
				t.Errorf("a hash, divided at %d and %d: %x, not %x", i, j, h.Sum(), want)
			}
		}
	}
}

// P3.4: pieces of one length, from 1 byte on.
func TestManyPieces(t *testing.T) {
	s := anyText(5000, 8)
	want := api.Fp(sha256.Sum256([]byte(s)))
	for n := 1; n <= 200; n++ {
		var l []string
		for rest := s; rest != ""; rest = rest[min(n, len(rest)):] {
			l = append(l, rest[:min(n, len(rest))])
		}
		if f := Sum(l...); f != want {
			t.Errorf("Sum of pieces of %d bytes: %x, not %x", n, f, want)
		}
		if h := hashOf(t, l...); h.Sum() != want || h.Len() != len(s) {
			t.Errorf("a hash of pieces of %d bytes: %x, not %x", n, h.Sum(), want)
		}
	}
}

// FuzzPieces holds any text in any three pieces against Go's library.
func FuzzPieces(f *testing.F) {
	f.Add("", "", "")
	f.Add("a", "b", "c")
	f.Add(anyText(63, 1), "x", anyText(64, 2))
	f.Fuzz(func(t *testing.T, a, b, c string) {
		want := api.Fp(sha256.Sum256([]byte(a + b + c)))
		if Sum(a, b, c) != want || sumByBlocks(t, a+b+c) != want {
			t.Errorf("Sum(%q, %q, %q): %x, not %x", a, b, c, Sum(a, b, c), want)
		}
		expect(t, hashOf(t, a, b, c), a+b+c)
	})
}
