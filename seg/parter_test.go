package seg

import (
	"strings"
	"testing"

	"sheaf/api"
)

// parter returns a new parter for settings that can divide.
func parter(t *testing.T, c api.Conf) *Parter {
	t.Helper()
	x, e := New(c)
	if x == nil || e != api.OK {
		t.Fatalf("New(%s): %v %d", told(c), x, e)
	}
	return x
}

// expectLen asks twice how many fingerprints are in no segment yet.
func expectLen(t *testing.T, what string, x *Parter, want int) {
	t.Helper()
	for range 2 {
		if n := x.Len(); n != want {
			t.Errorf("%s: Len %d, not %d", what, n, want)
		}
	}
}

// expectPut holds what Put reports, and Len behind it.
func expectPut(t *testing.T, what string, x *Parter, f api.Fp, end bool, left int) {
	t.Helper()
	if got := x.Put(f); got != end {
		t.Errorf("%s: Put %v", what, got)
	}
	expectLen(t, what, x, left)
}

// expectPuts puts a list into a parter that has received nothing, and holds each end against the document's words.
func expectPuts(t *testing.T, x *Parter, l []api.Fp, c api.Conf) {
	t.Helper()
	if n := x.Len(); n != 0 {
		t.Fatalf("%s: Len %d before the first Put", told(c), n)
	}
	sizes, incomplete := allByWords(l, c)
	ends := map[int]bool{}
	at := 0
	for i, n := range sizes {
		at += n
		if i < len(sizes)-1 || !incomplete {
			ends[at] = true
		}
	}
	left := 0
	for i, f := range l {
		left++
		if ends[i+1] {
			left = 0
		}
		if end := x.Put(f); end != ends[i+1] || x.Len() != left {
			t.Fatalf("fingerprint %d of %d, %s: Put %v, Len %d, not %v, %d", i+1, len(l), told(c), end, x.Len(), ends[i+1], left)
		}
	}
}

// P8.3: New is a parter that has received nothing.
func TestNew(t *testing.T) {
	for _, c := range confs() {
		x := parter(t, c)
		expectLen(t, "new", x, 0)
		x.Reset()
		expectLen(t, "a new one behind Reset", x, 0)
	}
}

// P8.3: Put and Len, step by step: an e marks the places where a segment ends.
func TestPutKnown(t *testing.T) {
	for _, k := range []struct {
		least, most int
		kinds, ends string
	}{
		{2, 4, "-m", "-e"}, {2, 4, "mm", "-e"}, {2, 4, "m-", "--"}, {2, 4, "----", "---e"}, {2, 4, "m---", "---e"}, {2, 4, "m-m", "--e"},
		{2, 4, "-mm-m", "-e--e"}, {2, 4, "-----m", "---e-e"}, {2, 4, "----m----", "---e---e-"}, {2, 4, "-mmmm", "-e-e-"},
		{1, 3, "mmm", "eee"}, {1, 3, "-m--m---", "-e--e--e"}, {1, 1, "-m-m", "eeee"}, {3, 3, "mmmmmmm", "--e--e-"}, {3, 3, "-------", "--e--e-"},
	} {
		for _, div := range []int{2, 5, 1000, greatestDiv} {
			x := parter(t, conf(k.least, k.most, div))
			left := 0
			for i, f := range fps(k.kinds, div) {
				left++
				end := k.ends[i] == 'e'
				if end {
					left = 0
				}
				expectPut(t, k.kinds[:i+1], x, f, end, left)
			}
		}
	}
}

// P8.4: the ends of the segments of the whole list, but for an incomplete last one.
func TestPuts(t *testing.T) {
	for _, c := range confs() {
		for _, l := range lists(c) {
			expectPuts(t, parter(t, c), l, c)
		}
	}
}

// P8.4: likewise against All and Cut, of all beginnings of a list.
func TestPutsAgainstAll(t *testing.T) {
	for _, c := range confs() {
		l := fps(anyKinds(2*c.SegMax+3, uint32(c.SegMin+3), 4), c.SegDiv)
		x := parter(t, c)
		from := 0
		for i, f := range l {
			end := x.Put(f)
			received := l[from : i+1]
			if n := Cut(received, c); end != (n == len(received)) || !end && n != 0 {
				t.Errorf("fingerprint %d, %s: Put %v, Cut %d", i, told(c), end, n)
			}
			if end {
				from = i + 1
			}
			left := 0
			if !end {
				left = i + 1 - from
			}
			sizes := All(l[:i+1], c)
			if x.Len() != left || len(sizes) == 0 || sizes[len(sizes)-1] != len(received) {
				t.Fatalf("fingerprint %d, %s: Put %v, Len %d, not %d, All %v", i, told(c), end, x.Len(), left, sizes)
			}
		}
	}
}

// P8.3: behind the end of a segment a parter is like a new one, with lists one after the other.
func TestBehindEnd(t *testing.T) {
	for _, c := range confs() {
		x := parter(t, c)
		for _, l := range lists(c) {
			n := 0
			sizes, incomplete := allByWords(l, c)
			for i, size := range sizes {
				if i < len(sizes)-1 || !incomplete {
					n += size
				}
			}
			expectPuts(t, x, l[:n], c)
			expectLen(t, "behind an end", x, 0)
		}
	}
}

// P8.3: Reset at the beginning, in the middle of a segment, and right behind its end.
func TestReset(t *testing.T) {
	c := conf(2, 4, 5)
	l := fps("-mm---m", 5)
	x := parter(t, c)
	x.Reset()
	expectLen(t, "Reset of a new one", x, 0)
	expectPuts(t, x, l, c)
	x.Reset()
	expectLen(t, "Reset in the middle", x, 0)
	expectPut(t, "a mark behind Reset", x, l[1], false, 1)
	x.Reset()
	x.Reset()
	expectLen(t, "two Resets", x, 0)
	expectPuts(t, x, l[:2], c)
	x.Reset()
	expectLen(t, "Reset behind an end", x, 0)
	expectPut(t, "a mark behind that", x, l[1], false, 1)
	expectPut(t, "and one more", x, l[2], true, 0)
}

// P8.3: Reset behind any number of fingerprints.
func TestResetAnywhere(t *testing.T) {
	for _, c := range confs() {
		l := fps(anyKinds(c.SegMax+2, uint32(c.SegMin+1), 6), c.SegDiv)
		x := parter(t, c)
		for n := range len(l) + 1 {
			expectPuts(t, x, l[:n], c)
			x.Reset()
			expectLen(t, "behind Reset", x, 0)
		}
		expectPuts(t, x, l, c)
	}
}

// P8.3: a parter that was reset before SegMax counts from there.
func TestResetBeforeMost(t *testing.T) {
	c := conf(1, greatestMax, greatestDiv)
	none := fps(strings.Repeat("-", greatestMax), greatestDiv)
	x := parter(t, c)
	expectPuts(t, x, none[1:], c)
	expectLen(t, "one below SegMax", x, greatestMax-1)
	x.Reset()
	expectPuts(t, x, none, c)
	expectLen(t, "at SegMax", x, 0)
}

// P8.3: two parters have nothing in common.
func TestTwoParters(t *testing.T) {
	l := fps("-m-m", 5)
	a, b := parter(t, conf(2, 4, 5)), parter(t, conf(3, 3, 7))
	expectPut(t, "one", a, l[0], false, 1)
	expectLen(t, "the other", b, 0)
	expectPut(t, "the other", b, l[0], false, 1)
	expectPut(t, "the other", b, l[1], false, 2)
	expectPut(t, "one", a, l[1], true, 0)
	expectLen(t, "the other", b, 2)
	b.Reset()
	expectPut(t, "one", a, l[2], false, 1)
	expectLen(t, "the other", b, 0)
	a.Reset()
	expectPut(t, "the other", b, l[2], false, 1)
	expectLen(t, "one", a, 0)
}

// P8.3: parters that New did not return: none, one without anything, and a copy.
func TestNotMade(t *testing.T) {
	made := parter(t, conf(2, 4, 5))
	made.Put(api.Fp{1})
	copied := *made
	var list [2]Parter
	for what, x := range map[string]*Parter{"nil": nil, "zero": {}, "new": new(Parter), "element": &list[1], "copy": &copied} {
		for range 2*greatestMax + 1 {
			expectPut(t, what, x, api.Fp{}, false, 0)
		}
		x.Reset()
		expectPut(t, what+" behind Reset", x, api.Fp{}, false, 0)
	}
	expectLen(t, "the one that New returned", made, 1)
	expectPut(t, "the one that New returned", made, api.Fp{}, true, 0)
}
