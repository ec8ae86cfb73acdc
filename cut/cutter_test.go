package cut

import (
	"slices"
	"strings"
	"testing"

	"sheaf/api"
)

// cutter returns a new cutter for settings that can cut.
func cutter(t *testing.T, c api.Conf) *Cutter {
	t.Helper()
	x, e := New(c)
	if x == nil || e != api.OK {
		t.Fatalf("New(%s): %v %d", told(c), x, e)
	}
	return x
}

// expectLeft asks twice how many bytes are in no chunk yet.
func expectLeft(t *testing.T, what string, x *Cutter, want int) {
	t.Helper()
	for range 2 {
		if n := x.Left(); n != want {
			t.Errorf("%s: Left %d, not %d", what, n, want)
		}
	}
}

// expectChunks holds chunks against those that are wanted, joined by a line each.
func expectChunks(t *testing.T, what string, l []string, want ...string) {
	t.Helper()
	if !slices.Equal(l, want) {
		t.Errorf("%s: %q, not %q", what, l, want)
	}
}

// equalPieces divides s into pieces of n bytes, or of one where n is below 1, with one of no byte ahead, between and behind.
func equalPieces(s string, n int) []string {
	l := []string{""}
	for len(s) > 0 {
		k := min(max(n, 1), len(s))
		l = append(l, s[:k])
		s = s[k:]
		if len(l)%5 == 0 {
			l = append(l, "")
		}
	}
	return append(l, "")
}

// anyPieces divides s into pieces of any lengths up to most; another seed gives other ones.
func anyPieces(s string, most int, seed uint32) []string {
	var l []string
	for len(s) > 0 {
		seed = seed*1664525 + 1013904223
		k := min(int(seed>>8)%(most+1), len(s))
		l = append(l, s[:k])
		s = s[k:]
	}
	return l
}

// whole is what the words say of a text in pieces: its chunks, and how many bytes of the text decide each of them; the last may be decided by End alone.
type whole struct {
	chunks []string
	decide []int
}

func wholeByWords(s string, c api.Conf) whole {
	w := whole{chunks: splitByWords(s, c)}
	at := 0
	for _, chunk := range w.chunks {
		need := c.Max
		if n := mainByWords(chunk, c); n > 0 {
			need = n
		}
		w.decide = append(w.decide, at+need)
		at += len(chunk)
	}
	return w
}

// expectPieces writes the pieces of s, holds what is certain behind each against the words, and the end too.
func expectPieces(t *testing.T, s string, c api.Conf, w whole, pieces []string) {
	t.Helper()
	x := cutter(t, c)
	chunks, decide := w.chunks, w.decide
	written, left := 0, 0
	for i, piece := range pieces {
		l := x.Write(piece)
		written += len(piece)
		left += len(piece)
		n := 0
		for n < len(chunks) && decide[n] <= written {
			left -= len(chunks[n])
			n++
		}
		if !slices.Equal(l, chunks[:n]) || x.Left() != left {
			t.Fatalf("piece %d of %d bytes, %s: %v, Left %d, not %v, %d", i, len(piece), told(c), lens(l), x.Left(), lens(chunks[:n]), left)
		}
		chunks, decide = chunks[n:], decide[n:]
	}
	if l := x.End(); written != len(s) || len(chunks) > 1 || !slices.Equal(l, chunks) {
		t.Fatalf("End behind %d pieces of %d bytes, %s: %v, not %v", len(pieces), len(s), told(c), lens(l), lens(chunks))
	}
	if n, l := x.Left(), x.End(); n != 0 || len(l) != 0 {
		t.Fatalf("behind End, %s: Left %d, End %q", told(c), n, l)
	}
}

// P6.3: New is a cutter that has received nothing.
func TestNew(t *testing.T) {
	for _, c := range confs() {
		x := cutter(t, c)
		expectLeft(t, "new", x, 0)
		expectChunks(t, "End of a new one", x.End())
		expectLeft(t, "behind End", x, 0)
		expectChunks(t, "another End", x.End())
		expectChunks(t, "Write of nothing", x.Write(""))
		expectLeft(t, "behind a Write of nothing", x, 0)
		expectChunks(t, "End behind it", x.End())
	}
}

// P6.3: Write, End and Left, step by step, with the chapter's examples' settings.
func TestCutterKnown(t *testing.T) {
	x := cutter(t, conf(2, 4, greatestDiv, greatestDiv))
	expectChunks(t, "3 bytes", x.Write("abc"))
	expectLeft(t, "3 bytes", x, 3)
	expectChunks(t, "nothing more", x.Write(""))
	expectLeft(t, "nothing more", x, 3)
	expectChunks(t, "the 4th", x.Write("d"), "abcd")
	expectLeft(t, "4 bytes", x, 0)
	expectChunks(t, "many", x.Write("efghijklmnopqr"), "efgh", "ijkl", "mnop")
	expectLeft(t, "many", x, 2)
	expectChunks(t, "the rest", x.End(), "qr")
	expectLeft(t, "the rest", x, 0)
	expectChunks(t, "another End", x.End())
	expectChunks(t, "behind End", x.Write("s"))
	expectLeft(t, "behind End", x, 1)
	expectChunks(t, "more behind End", x.Write("tuvw"), "stuv")
	expectLeft(t, "more behind End", x, 1)
	expectChunks(t, "the next rest", x.End(), "w")

	x = cutter(t, conf(2, 4, 1, 1))
	expectChunks(t, "always: 1 byte", x.Write("a"))
	expectLeft(t, "always: 1 byte", x, 1)
	expectChunks(t, "always: 2 bytes", x.Write("b"), "ab")
	expectLeft(t, "always: 2 bytes", x, 0)
	expectChunks(t, "always: 5 bytes", x.Write("cdefg"), "cd", "ef")
	expectLeft(t, "always: 5 bytes", x, 1)
	expectChunks(t, "always: the rest", x.End(), "g")

	x = cutter(t, conf(4, 16, 6, 3))
	expectChunks(t, "words: 4 bytes", x.Write("to b"))
	expectChunks(t, "words: 13 bytes", x.Write("e or not "), "to be or ")
	expectLeft(t, "words: 13 bytes", x, 4)
	expectChunks(t, "words: all bytes", x.Write("to be"), "not to")
	expectChunks(t, "words: the rest", x.End(), " be")
}

// P6.3: a chunk comes as soon as its end is certain: at a main place, else at Max.
func TestAsSoonAsCertain(t *testing.T) {
	for _, p := range placeCases() {
		if p.decide == 0 {
			continue
		}
		c := conf(p.least, p.most, 7, 5)
		s := textOf(t, p.kinds)[:p.decide]
		x := cutter(t, c)
		for k := range p.decide - 1 {
			if l := x.Write(s[k : k+1]); len(l) != 0 || x.Left() != k+1 {
				t.Errorf("byte %d of the places %s, %s: %q, Left %d", k+1, p.kinds, told(c), l, x.Left())
			}
		}
		l := x.Write(s[p.decide-1:])
		if len(l) == 0 || l[0] != s[:p.want] {
			t.Errorf("byte %d of the places %s, %s: %q, not %d bytes", p.decide, p.kinds, told(c), l, p.want)
		}
		if n := len(s) - len(strings.Join(l, "")); x.Left() != n {
			t.Errorf("byte %d of the places %s, %s: Left %d, not %d", p.decide, p.kinds, told(c), x.Left(), n)
		}
	}
}

// P6.3: behind End a cutter is like a new one, whatever came ahead.
func TestAgain(t *testing.T) {
	for _, c := range confs() {
		x := cutter(t, c)
		for i, n := range []int{1, c.Min - 1, c.Min, c.Max - 1, c.Max, c.Max + 1, 15, 16, 17, 100, c.Max + 40} {
			s := anyText(n, uint32(i))
			want := splitByWords(s, c)
			l := append(x.Write(s), x.End()...)
			if !slices.Equal(l, want) || x.Left() != 0 {
				t.Errorf("%d bytes behind an End, %s: %v, Left %d, not %v", n, told(c), lens(l), x.Left(), lens(want))
			}
		}
	}
}

// P6.3: a backup place of before End is none of what comes behind it.
func TestBackupBeforeEnd(t *testing.T) {
	x := cutter(t, conf(2, 6, 7, 5))
	before, s := textOf(t, "-bbb-"), textOf(t, "------")
	expectChunks(t, "Write", x.Write(before))
	expectChunks(t, "End", x.End(), before)
	expectChunks(t, "Write behind it", x.Write(s), s)
	expectChunks(t, "another Write", x.Write(s[:5]))
	expectLeft(t, "another Write", x, 5)
	expectChunks(t, "its last byte", x.Write(s[5:]), s)
}

// P6.3: two cutters have nothing in common.
func TestTwoCutters(t *testing.T) {
	a, b := cutter(t, conf(2, 4, 1, 1)), cutter(t, conf(2, 4, greatestDiv, greatestDiv))
	expectChunks(t, "one", a.Write("a"))
	expectLeft(t, "the other", b, 0)
	expectChunks(t, "the other", b.Write("xyz"))
	expectChunks(t, "one", a.Write("bc"), "ab")
	expectLeft(t, "the other", b, 3)
	expectChunks(t, "the other", b.End(), "xyz")
	expectLeft(t, "one", a, 1)
	expectChunks(t, "one", a.End(), "c")
}

// P6.3: cutters that New did not return: none, one without anything, and a copy.
func TestNotMade(t *testing.T) {
	made := cutter(t, conf(2, 4, 1, 1))
	made.Write("abc")
	copied := *made
	var list [2]Cutter
	for what, x := range map[string]*Cutter{"nil": nil, "zero": {}, "new": new(Cutter), "element": &list[1], "copy": &copied} {
		for _, s := range []string{"", "a", "abcdef", anyText(9000, 1)} {
			expectLeft(t, what, x, 0)
			expectChunks(t, what+": Write", x.Write(s))
			expectLeft(t, what+" behind Write", x, 0)
			expectChunks(t, what+": End", x.End())
		}
	}
	expectLeft(t, "the one that New returned", made, 1)
	expectChunks(t, "the one that New returned", made.Write("d"), "cd")
}

// P6.4: the examples' texts in all pieces.
func TestAllPieces(t *testing.T) {
	for _, c := range []api.Conf{conf(2, 4, 1, 1), conf(2, 4, greatestDiv, greatestDiv), conf(1, 3, 3, 2), conf(2, 9, 5, 3)} {
		s := anyText(11, 7)
		for ends := range 1 << (len(s) - 1) {
			var pieces []string
			from := 0
			for i := range s[1:] {
				if ends>>i&1 == 1 {
					pieces = append(pieces, s[from:i+1])
					from = i + 1
				}
			}
			expectPieces(t, s, c, wholeByWords(s, c), append(pieces, s[from:]))
		}
	}
}

// P6.4: pieces of equal lengths, of no byte, of one byte and of many chunks, and of any lengths.
func TestPieces(t *testing.T) {
	for _, c := range confs() {
		n := c.Max + 70
		for i, s := range []string{anyText(2*n, 8), strings.Repeat("\x00", n), strings.Repeat("\xfe", n), strings.Repeat(divText, n/3), anyText(n-1, 9)} {
			w := wholeByWords(s, c)
			for _, k := range []int{1, 2, 3, 15, 16, 17, c.Min - 1, c.Min, c.Min + 1, c.Max - 1, c.Max, c.Max + 1, 2 * c.Max, len(s)} {
				expectPieces(t, s, c, w, equalPieces(s, k))
			}
			for _, most := range []int{c.Min, c.Max, 40} {
				expectPieces(t, s, c, w, anyPieces(s, most, uint32(i)))
			}
		}
	}
}

// P6.4: a long text byte by byte, and in two pieces.
func TestLongPieces(t *testing.T) {
	s := anyText(api.MaxStream/4, 4)
	for _, c := range []api.Conf{conf(1, greatestMax, greatestDiv, greatestDiv), conf(64, greatestMax, 1024, 512), conf(greatestMax, greatestMax, 1, 1)} {
		want := Split(s, c)
		x := cutter(t, c)
		var l []string
		for i := range len(s) {
			l = append(l, x.Write(s[i:i+1])...)
		}
		if l = append(l, x.End()...); !slices.Equal(l, want) {
			t.Errorf("byte by byte, %s: %d chunks, not %d", told(c), len(l), len(want))
		}
		for _, k := range []int{0, 1, 4095, 4096, 4097, len(s) - 1, len(s)} {
			l = append(x.Write(s[:k]), x.Write(s[k:])...)
			if l = append(l, x.End()...); !slices.Equal(l, want) {
				t.Errorf("in two pieces at %d, %s: %d chunks, not %d", k, told(c), len(l), len(want))
			}
		}
	}
}

// Rule 4: a list of Write that was changed changes nothing of the cutter, nor of another list.
func TestCutterNewMemory(t *testing.T) {
	x := cutter(t, conf(2, 4, 1, 1))
	l := x.Write("abcde")
	l[0], l[1] = "x", "y"
	m := append(l[:1], "z")
	expectChunks(t, "the next list", x.Write("fgh"), "ef", "gh")
	expectChunks(t, "the list that was changed", m, "x", "z")
	x.Write("i")
	end := x.End()
	end[0] = "z"
	x.Write("j")
	expectChunks(t, "the next End", x.End(), "j")
}
