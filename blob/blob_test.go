package blob

import (
	"fmt"
	"math"
	"slices"
	"strings"
	"testing"

	"sheaf/api"
	"sheaf/disk"
)

// expectSectors holds what the sectors of a disk have, by their numbers, and that all others are as a loaded disk has them.
func expectSectors(t *testing.T, what string, d *disk.Disk, want map[int]string) {
	t.Helper()
	fresh := loaded(t, d.Len())
	for i := range d.Len() {
		is, ok := want[i]
		if !ok {
			is, _ = fresh.Read(i)
		}
		if s, e := d.Read(i); s != is || e != api.OK {
			t.Errorf("%s: sector %d has %q %d, not %q", what, i, s, e, is)
		}
	}
}

// The document's example: for 129 bytes in the runs 7 to 7 and 3 to 3 the first 128 are in sector 7, and one is in sector 3.
func TestExample(t *testing.T) {
	d := loaded(t, 8)
	s := text(1, 129)
	expectErr(t, "Put", Put(d, runs(7, 1, 3, 1), s), api.OK)
	expectSectors(t, "Put", d, map[int]string{7: s[:128], 3: s[128:] + strings.Repeat("\x00", 127)})
}

// spots returns lists of runs that have exactly as many sectors, on a disk of 40: in one run at the end, at the start, and in runs out of order.
func spots(sectors int) [][]api.Run {
	if sectors == 0 {
		return [][]api.Run{nil, {}}
	}
	l := [][]api.Run{runs(40-sectors, sectors), runs(0, sectors)}
	if sectors > 1 {
		l = append(l, runs(30, 1, 5, sectors-1), runs(sectors, sectors-1, sectors-1, 1))
	}
	if sectors <= mostRuns {
		backward := alone(2, sectors)
		slices.Reverse(backward)
		l = append(l, backward)
	}
	return l
}

// P12.2, P12.5: Put of texts of all lengths at edges: what the sectors have, those beside them too; nothing is flushed.
func TestPut(t *testing.T) {
	for _, size := range []int{0, 1, 2, 127, 128, 129, 255, 256, 257, 300, 2047, 2048} {
		s := text(size, size)
		for _, l := range spots((size + 127) / 128) {
			what := fmt.Sprintf("%d bytes in %s", size, told(l))
			p := twoOf(t, 40)
			image := p.d.Image()
			expectErr(t, what, doPut(t, p, l, s), api.OK)
			sectors := eachByWords(l)
			want := map[int]string{}
			for k, i := range sectors {
				want[i] = filled(s)[128*k:][:128]
			}
			expectSectors(t, what, p.d, want)
			if p.d.Image() != image || p.d.Waits() != len(sectors) || p.d.Ops() != len(sectors) || p.d.Down() {
				t.Errorf("%s: something was flushed, or %d wait of %d", what, p.d.Waits(), len(sectors))
			}
			if got := doGet(t, p, l, size); got != s {
				t.Errorf("%s: Get of Put: %q", what, got)
			}
		}
	}
}

// P12.2: the sectors are written in order: if of all writes the first ones survive, the first sectors of the runs have the bytes.
func TestPutOrder(t *testing.T) {
	s := text(3, 5*128-9)
	for _, l := range spots(5) {
		sectors := eachByWords(l)
		for n := range len(sectors) + 1 {
			d := loaded(t, 40)
			expectErr(t, "Put", Put(d, l, s), api.OK)
			d.Power(slices.Repeat([]bool{true}, n))
			want := map[int]string{}
			for k, i := range sectors[:n] {
				want[i] = filled(s)[128*k:][:128]
			}
			expectSectors(t, fmt.Sprintf("%d writes of %s", n, told(l)), d, want)
		}
	}
}

// P12.2: zero bytes, a text that ends with such, and one that is put over another one.
func TestPutZeroBytes(t *testing.T) {
	p := twoOf(t, 4)
	zero := strings.Repeat("\x00", 128)
	for _, s := range []string{text(1, 256), "x", text(2, 200) + "\x00", strings.Repeat("\x00", 129), "y" + zero, zero} {
		l := runs(3, 1, 1, 1)[:(len(s)+127)/128]
		doPut(t, p, l, s)
		if got := doGet(t, p, l, len(s)); got != s {
			t.Errorf("%q, not %q", got, s)
		}
	}
	expectSectors(t, "over another", p.d, map[int]string{3: zero, 1: zero})
}

// P12.2, P12.3: runs that end at the disk's last sector, and one beyond; all sectors of the greatest disk.
func TestEnds(t *testing.T) {
	for _, c := range []struct {
		sectors int
		l       []api.Run
		size    int
		want    api.Errno
	}{
		{5, runs(3, 2), 256, api.OK}, {5, runs(4, 1), 1, api.OK}, {5, runs(0, 5), 640, api.OK}, {5, runs(4, 1, 0, 1), 200, api.OK}, {5, runs(3, 3), 384, api.ErrArg}, {5, runs(5, 1), 1, api.ErrArg}, {5, runs(0, 6), 700, api.ErrArg}, {5, runs(0, 1, 4, 2), 384, api.ErrArg},
		{1, runs(0, 1), 128, api.OK}, {1, runs(1, 1), 128, api.ErrArg}, {1, runs(0, 2), 256, api.ErrArg}, {most, runs(0, most), blobBytes, api.OK}, {most, runs(1, most-1), blobBytes - 128, api.OK}, {most, runs(most/2, most/2, 0, most/2), blobBytes - 5, api.OK}, {most, runs(1, most), blobBytes, api.ErrArg}, {most, runs(0, most+1), blobBytes + 1, api.ErrArg},
	} {
		p := twoOf(t, c.sectors)
		s := text(5, c.size)
		expectErr(t, told(c.l), doPut(t, p, c.l, s), c.want)
		if c.want != api.OK {
			s = ""
		}
		if got := doGet(t, p, c.l, c.size); got != s {
			t.Errorf("%s: Get of Put is another text", told(c.l))
		}
	}
}

// P12.3: Get of what was never written, of what was written and not flushed, and of what was flushed; of a last sector in part, and of no bytes.
func TestGet(t *testing.T) {
	p := twoOf(t, 8)
	l := runs(7, 1, 2, 2)
	image := p.d.Image()
	old := image[7*128:] + image[2*128:4*128]
	for size := 257; size <= 384; size++ {
		if got := doGet(t, p, l, size); got != old[:size] {
			t.Errorf("never written, %d bytes: %q", size, got)
		}
	}
	s := text(9, 384)
	doPut(t, p, l, s)
	for _, size := range []int{257, 258, 300, 383, 384} {
		if got := doGet(t, p, l, size); got != s[:size] {
			t.Errorf("not flushed, %d bytes: %q", size, got)
		}
	}
	p.both(func(d *disk.Disk) { d.Flush() })
	p.both(func(d *disk.Disk) { d.Power(nil) })
	if got := doGet(t, p, l, 300); got != s[:300] {
		t.Errorf("flushed: %q", got)
	}
	p.both(func(d *disk.Disk) { d.Write(2, text(10, 128)) })
	if got := doGet(t, p, l, 384); got != s[:128]+text(10, 128)+s[256:] {
		t.Errorf("a sector of it written anew: %q", got)
	}
	for _, l := range [][]api.Run{nil, {}} {
		if got := doGet(t, p, l, 0); got != "" {
			t.Errorf("no bytes: %q", got)
		}
	}
	d, _ := disk.New(3)
	if got, e := Get(d, runs(0, 3), 300); got != strings.Repeat("\x00", 300) || e != api.OK {
		t.Errorf("a new disk: %q %d", got, e)
	}
}

// P12.4: Copy onto other runs, of which the last sector is filled with zero bytes, whatever is behind the bytes.
func TestCopy(t *testing.T) {
	for _, size := range []int{0, 1, 127, 128, 129, 300, 384, 1024} {
		sectors := (size + 127) / 128
		for _, from := range spots(sectors) {
			for _, to := range spots(sectors) {
				p := twoOf(t, 40)
				s := doGet(t, p, from, size)
				want := api.OK
				if shareByWords(from, to) {
					want = api.ErrArg
				}
				what := fmt.Sprintf("%d bytes from %s to %s", size, told(from), told(to))
				expectErr(t, what, doCopy(t, p, from, to, size), want)
				changed := map[int]string{}
				if want == api.OK {
					for k, i := range eachByWords(to) {
						changed[i] = filled(s)[128*k:][:128]
					}
				}
				expectSectors(t, what, p.d, changed)
				if p.d.Waits() != len(changed) || p.d.Ops() != len(changed) {
					t.Errorf("%s: %d wait, not %d", what, p.d.Waits(), len(changed))
				}
			}
		}
	}
}

// P12.4: Copy of what is pending, and of copies; runs that have a sector in common, the same ones, and a size that one of both does not fit.
func TestCopyKnown(t *testing.T) {
	p := twoOf(t, 20)
	s := text(4, 300)
	from := runs(6, 2, 0, 1)
	doPut(t, p, from, s)
	for _, c := range []struct {
		from, to []api.Run
		size     int
		want     api.Errno
	}{
		{from, runs(3, 3), 300, api.OK}, {runs(3, 3), runs(19, 1, 17, 1, 15, 1), 300, api.OK}, {from, runs(8, 3), 257, api.OK}, {from, runs(8, 3), 384, api.OK},
		{from, from, 300, api.ErrArg}, {from, runs(0, 1, 6, 2), 300, api.ErrArg}, {from, runs(2, 2, 7, 1), 300, api.ErrArg}, {from, runs(4, 3), 300, api.ErrArg}, {from, runs(7, 3), 300, api.ErrArg}, {from, runs(9, 1, 11, 1, 0, 1), 300, api.ErrArg}, {from, runs(5, 3), 300, api.ErrArg},
		{from, runs(2, 2), 300, api.ErrArg}, {from, runs(2, 4), 300, api.ErrArg}, {runs(2, 2), from, 300, api.ErrArg}, {runs(8, 4), from, 300, api.ErrArg}, {from, runs(8, 3), 256, api.ErrArg}, {from, runs(8, 3), 385, api.ErrArg}, {from, runs(8, 3), 0, api.ErrArg}, {from, runs(8, 3), -1, api.ErrArg}, {from, runs(8, 3), math.MaxInt, api.ErrArg},
		{from, nil, 0, api.ErrArg}, {nil, from, 0, api.ErrArg}, {nil, from, 300, api.ErrArg}, {from, nil, 300, api.ErrArg}, {nil, nil, 0, api.OK}, {nil, nil, 1, api.ErrArg}, {nil, nil, -1, api.ErrArg}, {nil, nil, math.MinInt, api.ErrArg},
		{from, runs(17, 3), 300, api.OK}, {from, runs(18, 3), 300, api.ErrArg}, {runs(18, 3), from, 300, api.ErrArg}, {from, runs(8, 2, 9, 1), 300, api.ErrArg}, {from, runs(8, 3, 12, 0), 300, api.ErrArg}, {runs(-1, 3), from, 300, api.ErrArg},
	} {
		what := fmt.Sprintf("%d bytes from %s to %s", c.size, told(c.from), told(c.to))
		waits := p.d.Waits()
		expectErr(t, what, doCopy(t, p, c.from, c.to, c.size), c.want)
		if c.want != api.OK && p.d.Waits() != waits {
			t.Errorf("%s: something was written", what)
		}
	}
	if got := doGet(t, p, runs(19, 1, 18, 1, 17, 1), 384); got != filled(s)[256:]+s[128:256]+s[:128] {
		t.Errorf("behind all copies: %q", got)
	}
}

// P12.2 to P12.5: all lists of up to two small runs, and all sizes at the edges, on a disk of three sectors.
func TestAll(t *testing.T) {
	p := twoOf(t, 3)
	lists := listsOf(smallRuns(-1, 6, 3), 2)
	for n, l := range lists {
		for _, size := range []int{0, 1, 127, 128, 129, 256, 257, 384, 385} {
			doGet(t, p, l, size)
			if s := text(n, size); doPut(t, p, l, s) == api.OK && doGet(t, p, l, size) != s {
				t.Errorf("Get of Put: %d bytes in %s", size, told(l))
			}
			doCopy(t, p, l, lists[(n*13+size)%len(lists)], size)
		}
		doGet(t, p, l, -1)
		doGet(t, p, l, math.MaxInt)
		p.both(func(d *disk.Disk) { d.Flush() })
	}
}

// P12.4: Copy from and to all lists of up to two small runs that are valid, with all sizes at the edges.
func TestCopyAll(t *testing.T) {
	p := twoOf(t, 4)
	valid := slices.DeleteFunc(listsOf(smallRuns(0, 4, 4), 2), func(l []api.Run) bool { return !validByWords(l, 4) })
	for _, from := range valid {
		for _, to := range valid {
			for _, size := range []int{0, 1, 128, 129, 256, 384, 385, 512} {
				doCopy(t, p, from, to, size)
			}
			p.both(func(d *disk.Disk) { d.Flush() })
		}
	}
}

// P12.2 to P12.4: lists of all kinds with sizes that they do not fit, on disks of all sorts of lengths: nothing is written.
func TestNothingFits(t *testing.T) {
	lists := append(someLists(), listsOf(edgeRuns(), 1)...)
	for _, sectors := range []int{1, 8, 40, most} {
		d := loaded(t, sectors)
		for n, l := range lists {
			other := lists[(n+5)%len(lists)]
			for _, size := range []int{0, 1, 128, 256, 300, 2048, 2049, blobBytes - 128, blobBytes, blobBytes + 1} {
				if fitByWords(l, sectors, size) {
					continue
				}
				what := fmt.Sprintf("%s, %d sectors, %d bytes", told(l), sectors, size)
				expectErr(t, what+": Put", Put(d, l, strings.Repeat("x", size)), api.ErrArg)
				if s, e := Get(d, l, size); s != "" || e != api.ErrArg {
					t.Errorf("%s: Get: %q %d", what, s, e)
				}
				expectErr(t, what+": Copy from it", Copy(d, l, other, size), api.ErrArg)
				expectErr(t, what+": Copy to it", Copy(d, other, l, size), api.ErrArg)
			}
		}
		if d.Ops() != 0 || d.Image() != loaded(t, sectors).Image() {
			t.Errorf("%d operations, though nothing fits", d.Ops())
		}
	}
}

// downOf returns a disk of 9 sectors that is down behind an operation.
func downOf(t *testing.T) *disk.Disk {
	t.Helper()
	d := loaded(t, 9)
	d.Fuse(0)
	expectErr(t, "Flush that is cut", d.Flush(), api.ErrDown)
	return d
}

// expectAllErrors holds the errors of all calls, with runs that fit, and with such as do not.
func expectAllErrors(t *testing.T, what string, d *disk.Disk, ifFit, ifNot api.Errno) {
	t.Helper()
	for _, c := range []struct {
		from, to []api.Run
		size     int
		want     api.Errno
	}{
		{runs(0, 2), runs(3, 2), 200, ifFit}, {nil, nil, 0, ifFit}, {runs(8, 1), runs(0, 1), 1, ifFit},
		{runs(0, 2), runs(3, 2), 300, ifNot}, {nil, nil, 1, ifNot}, {runs(9, 1), runs(10, 1), 1, ifNot}, {runs(0, 1, 0, 1), runs(3, 1, 3, 1), 256, ifNot}, {runs(0, 0), runs(1, 0), 0, ifNot}, {runs(0, 1), runs(2, 1), 0, ifNot}, {runs(-1, 1), runs(-2, 1), 9, ifNot},
	} {
		for _, l := range [][]api.Run{c.from, c.to} {
			expectErr(t, what+": Put", Put(d, l, text(1, c.size)), c.want)
			s, e := Get(d, l, c.size)
			expectErr(t, what+": Get", e, c.want)
			if e != api.OK && s != "" {
				t.Errorf("%s: Get returned %q with an error", what, s)
			}
		}
		expectErr(t, what+": Copy", Copy(d, c.from, c.to, c.size), c.want)
	}
	expectErr(t, what+": Copy from what does not fit", Copy(d, runs(0, 1), runs(3, 2), 200), ifNot)
	expectErr(t, what+": Copy to what does not fit", Copy(d, runs(3, 2), runs(0, 1), 200), ifNot)
	expectErr(t, what+": Copy with a sector in common", Copy(d, runs(3, 2), runs(4, 2), 200), ifNot)
	for _, size := range []int{-1, math.MinInt, math.MaxInt} {
		if s, e := Get(d, runs(0, 1), size); s != "" || e != ifNot {
			t.Errorf("%s: Get of %d bytes: %q %d", what, size, s, e)
		}
		expectErr(t, what+": Copy of such a size", Copy(d, runs(0, 1), runs(1, 1), size), ifNot)
	}
}

// P12.2 to P12.4, the errors' order: a disk that was not created comes ahead of runs that do not fit, and these ahead of a disk that is down.
func TestErrors(t *testing.T) {
	expectAllErrors(t, "up", loaded(t, 9), api.OK, api.ErrArg)
	down := downOf(t)
	expectAllErrors(t, "down", down, api.ErrDown, api.ErrArg)
	if down.Waits() != 0 || down.Ops() != 1 || !down.Down() || down.Image() != loaded(t, 9).Image() {
		t.Errorf("a disk that is down: %d wait, %d operations", down.Waits(), down.Ops())
	}
}

// P12.2 to P12.4: disks that neither New nor Load returned: none, one without anything, and copies of one that is up, and of one that is down.
func TestNotCreated(t *testing.T) {
	up, down := loaded(t, 9), downOf(t)
	copied, copiedDown := *up, *down
	var list [2]disk.Disk
	for what, d := range map[string]*disk.Disk{"nil": nil, "zero": {}, "new": new(disk.Disk), "element": &list[1], "copy": &copied, "copy of one that is down": &copiedDown} {
		expectAllErrors(t, what, d, api.ErrNil, api.ErrNil)
	}
	if up.Ops() != 0 || up.Image() != loaded(t, 9).Image() {
		t.Error("what was asked of a copy changed the original")
	}
}
