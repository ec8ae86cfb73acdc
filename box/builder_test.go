package box

import (
	"fmt"
	"math"
	"testing"

	"sheaf/api"
)

// two is a builder, and what it has by the document's words.
type two struct {
	b *Builder
	p *plan
}

// twoOf returns a new builder for bounds that may be.
func twoOf(t *testing.T, id uint32, slots, bytes int) two {
	t.Helper()
	b, e := New(id, slots, bytes)
	if b == nil || e != api.OK {
		t.Fatalf("New(%d, %d, %d): %v %d", id, slots, bytes, b, e)
	}
	return two{b, &plan{id: id, slots: slots, bytes: bytes}}
}

// add does an Add, and holds it against the document's words, with all that can be asked behind it.
func (x two) add(t *testing.T, chunk string) api.Errno {
	t.Helper()
	want, wantE := x.p.add(chunk)
	if slot, e := x.b.Add(chunk); slot != want || e != wantE {
		t.Errorf("Add of %d bytes, then %s, of %d and %d: %d %d, not %d %d", len(chunk), listed(x.p.chunks), x.p.slots, x.p.bytes, slot, e, want, wantE)
	}
	x.expectLen(t)
	for _, slot := range []int{want - 1, want, want + 1, len(x.p.chunks)} {
		x.expectChunk(t, slot)
	}
	return wantE
}

// expectLen asks twice.
func (x two) expectLen(t *testing.T) {
	t.Helper()
	for range 2 {
		if n := x.b.Len(); n != len(x.p.chunks) {
			t.Errorf("Len %d, not %d", n, len(x.p.chunks))
		}
	}
}

func (x two) expectChunk(t *testing.T, slot int) {
	t.Helper()
	want, wantE := x.p.chunk(slot)
	if c, e := x.b.Chunk(slot); c != want || e != wantE {
		t.Errorf("Chunk %d of %s: %q %d, not %q %d", slot, listed(x.p.chunks), cropped(c), e, cropped(want), wantE)
	}
}

// expectAll holds all that can be asked of a builder; it returns the box.
func (x two) expectAll(t *testing.T) string {
	t.Helper()
	x.expectLen(t)
	for slot := range x.p.chunks {
		x.expectChunk(t, slot)
	}
	for _, slot := range append(edges(), len(x.p.chunks)) {
		x.expectChunk(t, slot)
	}
	want, wantE := x.p.seal()
	for range 2 {
		if s, e := x.b.Seal(); s != want || e != wantE {
			t.Errorf("Seal of %s: %q %d, not %q %d", listed(x.p.chunks), cropped(s), e, cropped(want), wantE)
		}
		x.expectLen(t)
	}
	if wantE == api.OK {
		expectBuild(t, x.p.id, x.p.chunks)
	}
	return want
}

// P14.4: each bound of New, one beyond each, and the least and the greatest int.
func TestNew(t *testing.T) {
	for _, id := range []uint32{0, 1, 2, 1 << 31, mostID - 1, mostID, mostID + 1} {
		for _, slots := range []int{math.MinInt, math.MinInt32, -256, -1, 0, 1, 2, 255, 256, 257, 1 << 16, 1 << 32, 1<<32 + 1, math.MaxInt} {
			for _, bytes := range []int{math.MinInt, math.MinInt32, -65536, -1, 0, 1, 2, 4096, 65535, 65536, 65537, 1 << 32, 1<<32 + 1, math.MaxInt} {
				what := fmt.Sprintf("New(%d, %d, %d)", id, slots, bytes)
				want := api.ErrArg
				if id >= 1 && id <= mostID && slots >= 1 && slots <= mostChunks && bytes >= 1 && bytes <= mostBytes {
					want = api.OK
				}
				b, e := New(id, slots, bytes)
				expectErr(t, what, e, want)
				if (b != nil) != (want == api.OK) {
					t.Errorf("%s: a builder, %v", what, b != nil)
				}
				if want == api.OK {
					x := two{b, &plan{id: id, slots: slots, bytes: bytes}}
					x.expectAll(t)
					x.add(t, "x")
					x.expectAll(t)
				}
			}
		}
	}
}

// P14.4: Add, step by step; what just fits, and one byte or chunk too many.
func TestAddKnown(t *testing.T) {
	b, _ := New(4, 3, 10)
	for i, c := range []struct {
		chunk string
		slot  int
		e     api.Errno
		n     int
	}{
		{"", 0, api.ErrArg, 0}, {"abcdefghijk", 0, api.ErrFull, 0}, {"abcd", 0, api.OK, 1}, {text(1, 4097), 0, api.ErrArg, 1}, {"efghijk", 0, api.ErrFull, 1}, {"efghi", 1, api.OK, 2},
		{"jk", 0, api.ErrFull, 2}, {"j", 2, api.OK, 3}, {"", 0, api.ErrArg, 3}, {"k", 0, api.ErrFull, 3}, {text(1, 4097), 0, api.ErrArg, 3},
	} {
		slot, e := b.Add(c.chunk)
		if n := b.Len(); slot != c.slot || e != c.e || n != c.n {
			t.Errorf("Add %d: %d %d, Len %d", i, slot, e, n)
		}
	}
	want := built(t, 4, "abcd", "efghi", "j")
	for range 2 {
		if s, e := b.Seal(); s != want || e != api.OK {
			t.Errorf("Seal: %q %d", s, e)
		}
	}
}

// P14.4: builders with bounds of all kinds, filled up by chunks of one length, each refused chunk asked for at each step.
func TestAddFull(t *testing.T) {
	none := texts(0, 4097, 65536)
	for _, slots := range []int{1, 2, 3, 16, 17, 255, 256} {
		for _, bytes := range []int{1, 2, 5, 256, 4095, 4096, 4097, 65535, 65536} {
			for _, n := range []int{1, 2, 255, 256, 257, 4095, 4096} {
				x := twoOf(t, 11, slots, bytes)
				left, room := slots, bytes
				for i := range 300 {
					for _, wrong := range none {
						expectErr(t, "no chunk", x.add(t, wrong), api.ErrArg)
					}
					if room < mostChunk {
						expectErr(t, "a byte too many", x.add(t, text(1, room+1)), api.ErrFull)
					}
					if left == 0 {
						expectErr(t, "a chunk too many", x.add(t, "x"), api.ErrFull)
						break
					}
					if room < n {
						break
					}
					expectErr(t, "a chunk that fits", x.add(t, text(i, n)), api.OK)
					left, room = left-1, room-n
				}
				if left > 0 && room > 0 && room <= mostChunk {
					expectErr(t, "a chunk that just fits", x.add(t, text(5, room)), api.OK)
					expectErr(t, "behind it", x.add(t, "x"), api.ErrFull)
				}
				x.expectAll(t)
			}
		}
	}
}

// P14.4: Seal with no chunk, behind errors, amid chunks, and twice; more are added behind it.
func TestSeal(t *testing.T) {
	x := twoOf(t, 300, 4, 12)
	if s, e := x.b.Seal(); s != "" || e != api.ErrNone {
		t.Errorf("Seal of no chunk: %q %d", s, e)
	}
	x.expectAll(t)
	x.add(t, "")
	x.add(t, text(1, 13))
	x.expectAll(t)
	var boxes []string
	for _, c := range []string{"abc", "", "de", text(1, 5000), "fghijklm", "a", "ABCDE", "a", "abcdef"} {
		x.add(t, c)
		boxes = append(boxes, x.expectAll(t))
	}
	// A box that was returned stays as it is.
	for i, l := range [][]string{{"abc"}, {"abc"}, {"abc", "de"}, {"abc", "de"}, {"abc", "de"}, {"abc", "de", "a"}, {"abc", "de", "a", "ABCDE"}, {"abc", "de", "a", "ABCDE"}, {"abc", "de", "a", "ABCDE"}} {
		if want := built(t, 300, l...); boxes[i] != want {
			t.Errorf("box %d: %q, not %q", i, boxes[i], want)
		}
	}
}

// P14.4: a Seal behind each Add of the greatest boxes, and the same without one.
func TestSealFull(t *testing.T) {
	for _, c := range []struct{ n, length int }{{256, 1}, {256, 256}, {16, 4096}, {128, 512}} {
		x, silent := twoOf(t, mostID, 256, 65536), twoOf(t, mostID, 256, 65536)
		var last string
		for i := range c.n {
			x.add(t, text(i, c.length))
			silent.add(t, text(i, c.length))
			last, _ = x.b.Seal()
		}
		if all, e := silent.b.Seal(); all != last || e != api.OK {
			t.Errorf("%d chunks of %d: another box, %d", c.n, c.length, e)
		}
		x.expectAll(t)
		silent.expectAll(t)
	}
}

// P14.4: the same chunks in two builders, with other bounds: the same box; one of them does not change the other one.
func TestBuildersApart(t *testing.T) {
	x, y := twoOf(t, 5, 256, 65536), twoOf(t, 5, 3, 9)
	for _, c := range []string{"abc", "abc", "d"} {
		x.add(t, c)
		y.add(t, c)
	}
	if a, b := x.expectAll(t), y.expectAll(t); a != b {
		t.Errorf("%q, not %q", b, a)
	}
	x.add(t, "more")
	y.add(t, "more")
	x.expectAll(t)
	y.expectAll(t)
}

// expectNil holds what a Builder that New did not return answers.
func expectNil(t *testing.T, what string, b *Builder) {
	t.Helper()
	for range 2 {
		for _, c := range []string{"", "abc", text(1, 4097)} {
			if slot, e := b.Add(c); slot != 0 || e != api.ErrNil {
				t.Errorf("%s: Add of %d bytes: %d %d", what, len(c), slot, e)
			}
		}
		for _, slot := range edges() {
			if c, e := b.Chunk(slot); c != "" || e != api.ErrNil {
				t.Errorf("%s: Chunk %d: %q %d", what, slot, c, e)
			}
		}
		if s, e := b.Seal(); s != "" || e != api.ErrNil {
			t.Errorf("%s: Seal: %q %d", what, s, e)
		}
		if n := b.Len(); n != 0 {
			t.Errorf("%s: Len %d", what, n)
		}
	}
}

// P14.4: builders that New did not return: nil, made by hand, copied with and without chunks, and beside an error.
func TestBuilderNil(t *testing.T) {
	expectNil(t, "nil", nil)
	expectNil(t, "by hand", &Builder{})
	expectNil(t, "by new", new(Builder))
	x := twoOf(t, 5, 3, 9)
	early := *x.b
	expectNil(t, "a copy of an empty one", &early)
	x.add(t, "abc")
	late := *x.b
	expectNil(t, "a copy", &late)
	x.expectAll(t)
	x.add(t, "def")
	expectNil(t, "a copy, once more", &late)
	x.expectAll(t)
	for _, c := range []struct {
		id           uint32
		slots, bytes int
	}{{0, 1, 1}, {1, 0, 1}, {1, 1, 0}, {mostID + 1, 256, 65536}, {1, 257, 65536}, {1, 256, 65537}} {
		b, e := New(c.id, c.slots, c.bytes)
		expectErr(t, "New", e, api.ErrArg)
		expectNil(t, "beside an error", b)
	}
}

// doAny does a call of a builder.
func doAny(t *testing.T, x two, next func(below int) int) {
	t.Helper()
	switch next(8) {
	case 0:
		x.expectAll(t)
	case 1:
		x.expectChunk(t, next(300)-20)
	case 2:
		x.add(t, text(next(100), next(5000)))
	case 3:
		x.add(t, text(next(100), next(3)))
	default:
		x.add(t, text(next(100), next(1+next(400))))
	}
}

// P14.4: any calls, one after another.
func TestBuilderAny(t *testing.T) {
	next := anyNumbers(41)
	for range 300 {
		x := twoOf(t, uint32(1+next(1<<24)), 1+next(mostChunks), 1+next(1+next(mostBytes)))
		for range 1 + next(60) {
			doAny(t, x, next)
		}
		x.expectAll(t)
	}
}

func FuzzBuilder(f *testing.F) {
	f.Add(uint32(1), 3, 10, "")
	f.Add(uint32(mostID), 256, 65536, "\x02\x00\x05\x03\x00\x06\x00\x01\x07\xff\xfe\xfd")
	f.Add(uint32(9), 5, 4097, "abcdefghijklmnopqrstuvwxyz")
	f.Fuzz(func(t *testing.T, id uint32, slots, bytes int, choices string) {
		b, e := New(id, slots, bytes)
		if e != api.OK {
			expectNil(t, "fuzz", b)
			return
		}
		x := two{b, &plan{id: id, slots: slots, bytes: bytes}}
		at := 0
		next := func(below int) int {
			at++
			if at > len(choices) {
				return at % below
			}
			return int(choices[at-1]) * 257 % below
		}
		for step := 0; at < len(choices) && step < 200; step++ {
			doAny(t, x, next)
		}
		x.expectAll(t)
	})
}
