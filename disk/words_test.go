package disk

import (
	"slices"
	"strconv"
	"strings"
	"testing"

	"sheaf/api"
)

// sectorBytes and most are a sector's bytes and a disk's sectors, as the document writes them.
const (
	sectorBytes = 128
	most        = 8192
)

// full returns bytes for a sector that begin with what they are told by; another text gives other bytes throughout.
func full(told string) string {
	b := make([]byte, sectorBytes)
	seed := uint32(len(told))
	for i := range len(told) {
		seed = seed*31 + uint32(told[i])
	}
	for i := range b {
		seed = seed*1664525 + 1013904223
		b[i] = byte(seed >> 24)
	}
	copy(b, told)
	return string(b)
}

// imageOf returns an image of n sectors, of which no two are equal.
func imageOf(n int) string {
	var b strings.Builder
	for i := range n {
		b.WriteString(full("image " + strconv.Itoa(i)))
	}
	return b.String()
}

// wordsDisk is a disk as the document's words have it.
type wordsDisk struct {
	durable []string
	pending []wordsWrite
	hasFuse bool
	left    int
	down    bool
	ops     int
}

type wordsWrite struct {
	sector int
	s      string
}

func loadByWords(image string) *wordsDisk {
	w := &wordsDisk{}
	for at := 0; at < len(image); at += sectorBytes {
		w.durable = append(w.durable, image[at:at+sectorBytes])
	}
	return w
}

func (w *wordsDisk) visible(i int) string {
	for _, p := range slices.Backward(w.pending) {
		if p.sector == i {
			return p.s
		}
	}
	return w.durable[i]
}

func (w *wordsDisk) isCut() bool {
	w.ops++
	if !w.hasFuse || w.left > 0 {
		w.left--
		return false
	}
	w.down = true
	return true
}

// refuses returns the errors that Read and Write have in common.
func (w *wordsDisk) refuses(i int) api.Errno {
	if w.down {
		return api.ErrDown
	}
	if i < 0 || i >= len(w.durable) {
		return api.ErrRange
	}
	return api.OK
}

func (w *wordsDisk) read(i int) (string, api.Errno) {
	if e := w.refuses(i); e != api.OK {
		return "", e
	}
	return w.visible(i), api.OK
}

func (w *wordsDisk) write(i int, s string) api.Errno {
	if e := w.refuses(i); e != api.OK {
		return e
	}
	if len(s) != sectorBytes {
		return api.ErrArg
	}
	w.pending = append(w.pending, wordsWrite{i, s})
	if w.isCut() {
		return api.ErrDown
	}
	return api.OK
}

func (w *wordsDisk) flush() api.Errno {
	if w.down || w.isCut() {
		return api.ErrDown
	}
	for i := range w.durable {
		w.durable[i] = w.visible(i)
	}
	w.pending = nil
	return api.OK
}

func (w *wordsDisk) power(keep []bool) {
	for i, p := range w.pending {
		if i < len(keep) && keep[i] {
			w.durable[p.sector] = p.s
		}
	}
	w.pending, w.hasFuse, w.down = nil, false, false
}

func (w *wordsDisk) spoil(at int, by string) api.Errno {
	image := []byte(strings.Join(w.durable, ""))
	if at < 0 || at > len(image) || len(by) > len(image)-at {
		return api.ErrRange
	}
	for i := range len(by) {
		image[at+i] ^= by[i]
	}
	w.durable = loadByWords(string(image)).durable
	return api.OK
}

// step is a call that may change a disk, by a letter: w is a Write of s into the sector n, f a Flush,
// u a Fuse of n, p a Power with keep, s a Spoil of the bytes from n on by s.
type step struct {
	kind byte
	n    int
	s    string
	keep []bool
}

func (s step) told() string {
	keep := ""
	for _, k := range s.keep {
		keep += strconv.FormatBool(k)[:1]
	}
	return string(s.kind) + " " + strconv.Itoa(s.n) + " " + strconv.Itoa(len(s.s)) + " " + keep
}

func (s step) do(d *Disk) api.Errno {
	switch s.kind {
	case 'w':
		return d.Write(s.n, s.s)
	case 'f':
		return d.Flush()
	case 'u':
		d.Fuse(s.n)
	case 'p':
		d.Power(s.keep)
	case 's':
		return d.Spoil(s.n, s.s)
	}
	return api.OK
}

func (s step) doByWords(w *wordsDisk) api.Errno {
	switch s.kind {
	case 'w':
		return w.write(s.n, s.s)
	case 'f':
		return w.flush()
	case 'u':
		w.hasFuse, w.left = s.n >= 0, s.n
	case 'p':
		w.power(s.keep)
	case 's':
		return w.spoil(s.n, s.s)
	}
	return api.OK
}

// expectSame holds all that can be asked of a disk against the document's words, twice.
func expectSame(t *testing.T, what string, d *Disk, w *wordsDisk) {
	t.Helper()
	for range 2 {
		if d.Len() != len(w.durable) || d.Waits() != len(w.pending) || d.Ops() != w.ops || d.Down() != w.down {
			t.Fatalf("%s: %d sectors, %d wait, %d operations, down %v, not %d, %d, %d, %v",
				what, d.Len(), d.Waits(), d.Ops(), d.Down(), len(w.durable), len(w.pending), w.ops, w.down)
		}
		if d.Image() != strings.Join(w.durable, "") {
			t.Fatalf("%s: the image is another one", what)
		}
		for i := -1; i <= len(w.durable); i++ {
			want, wantE := w.read(i)
			if s, e := d.Read(i); s != want || e != wantE {
				t.Fatalf("%s: Read(%d): %q %d, not %q %d", what, i, s, e, want, wantE)
			}
		}
	}
}

// expectSteps does steps, holds each error against the words, and all that can be asked behind the last one.
func expectSteps(t *testing.T, d *Disk, w *wordsDisk, steps ...step) {
	t.Helper()
	told := make([]string, 0, len(steps))
	for _, s := range steps {
		told = append(told, s.told())
		if e, want := s.do(d), s.doByWords(w); e != want {
			t.Fatalf("%s: %d, not %d", strings.Join(told, ", "), e, want)
		}
	}
	expectSame(t, strings.Join(told, ", "), d, w)
}

// made returns a disk of n sectors, of which no two are equal, and the same by the words.
func made(t *testing.T, n int) (*Disk, *wordsDisk) {
	t.Helper()
	image := imageOf(n)
	d, e := Load(image)
	if d == nil || e != api.OK {
		t.Fatalf("Load of %d sectors: %v %d", n, d, e)
	}
	return d, loadByWords(image)
}

// allSteps returns one step of each sort for a disk of two sectors; what is written or spoilt by is told by the place in the history.
func allSteps(place int) []step {
	s := full("write " + strconv.Itoa(place))
	by := string([]byte{byte(1 + place), byte(128 + place)})
	return []step{
		{kind: 'w', n: 0, s: s}, {kind: 'w', n: 1, s: s}, {kind: 'w', n: 2, s: s}, {kind: 'w', n: 0, s: s[1:]}, {kind: 'f'},
		{kind: 'u', n: 0}, {kind: 'u', n: 1}, {kind: 'u', n: -1}, {kind: 's', n: 127, s: by}, {kind: 's', n: 255, s: by},
		{kind: 'p'}, {kind: 'p', keep: []bool{true}}, {kind: 'p', keep: []bool{false, true, false, true, true}},
	}
}

// P9.2 to P9.6: all histories of up to four steps.
func TestAllHistories(t *testing.T) {
	image := imageOf(2)
	var histories func(ahead []step)
	histories = func(ahead []step) {
		d, _ := Load(image)
		expectSteps(t, d, loadByWords(image), ahead...)
		if len(ahead) == 4 {
			return
		}
		for _, s := range allSteps(len(ahead)) {
			histories(append(slices.Clone(ahead), s))
		}
	}
	histories(nil)
}

// anyStep returns a step by what next returns: a number from 0 on, below what it is asked for.
func anyStep(place int, w *wordsDisk, next func(below int) int) step {
	n := len(w.durable)
	switch k := next(20); {
	case k < 11:
		s := full("any " + strconv.Itoa(place))
		if next(10) == 0 {
			s = s[:next(sectorBytes)]
		}
		if next(10) == 0 {
			s += s
		}
		return step{kind: 'w', n: next(n+2) - 1, s: s}
	case k < 14:
		return step{kind: 'f'}
	case k < 16:
		return step{kind: 'u', n: next(12) - 2}
	case k < 18:
		keep := make([]bool, next(len(w.pending)+3))
		for i := range keep {
			keep[i] = next(2) == 1
		}
		return step{kind: 'p', keep: keep}
	}
	at := next(n*sectorBytes + 1)
	return step{kind: 's', n: at - next(2), s: full("by")[:next(min(sectorBytes, n*sectorBytes-at+2))]}
}

// P9.2 to P9.6: long histories.
func TestLongHistories(t *testing.T) {
	seed := uint32(1)
	next := func(below int) int {
		seed = seed*1664525 + 1013904223
		return int(seed>>8) % below
	}
	for _, n := range []int{1, 2, 3, 5, 16, 64} {
		for range 20 {
			d, w := made(t, n)
			for place := range 100 {
				expectSteps(t, d, w, anyStep(place, w, next))
			}
		}
	}
}

func FuzzDisk(f *testing.F) {
	f.Add(1, "")
	f.Add(3, "\x00\x01\x02\x03\x0b\x0e\x05\x00\x01\x02\x03\x10\x02\x01\x01")
	f.Add(8192, "\x12\x34\x56\x78\x9a\xbc\xde\xf0")
	f.Fuzz(func(t *testing.T, n int, choices string) {
		if n < 1 || n > most {
			if d, e := New(n); d != nil || e != api.ErrRange {
				t.Fatalf("New(%d): %v %d", n, d, e)
			}
			return
		}
		d, e := New(n)
		if d == nil || e != api.OK {
			t.Fatalf("New(%d): %v %d", n, d, e)
		}
		w := loadByWords(strings.Repeat("\x00", n*sectorBytes))
		at := 0
		next := func(below int) int {
			if at >= len(choices) {
				return 0
			}
			at++
			return int(choices[at-1]) * 257 % below
		}
		for place := 0; at < len(choices) && place < 300; place++ {
			s := anyStep(place, w, next)
			if e, want := s.do(d), s.doByWords(w); e != want {
				t.Fatalf("%s: %d, not %d", s.told(), e, want)
			}
		}
		expectSame(t, "a disk of "+strconv.Itoa(n), d, w)
	})
}
