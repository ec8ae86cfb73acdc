package disk

import (
	"math"
	"strconv"
	"strings"
	"testing"

	"sheaf/api"
)

// expectRead holds what Read returns of a sector.
func expectRead(t *testing.T, what string, d *Disk, i int, want string) {
	t.Helper()
	if s, e := d.Read(i); s != want || e != api.OK {
		t.Errorf("%s: Read(%d): %q %d, not %q", what, i, s, e, want)
	}
}

// expectErr holds the error of a call.
func expectErr(t *testing.T, what string, e, want api.Errno) {
	t.Helper()
	if e != want {
		t.Errorf("%s: error %d, not %d", what, e, want)
	}
}

// expectCounts holds how many operations there were, how many writes are pending, and whether the disk is down.
func expectCounts(t *testing.T, what string, d *Disk, ops, waits int, down bool) {
	t.Helper()
	for range 2 {
		if d.Ops() != ops || d.Waits() != waits || d.Down() != down {
			t.Errorf("%s: %d operations, %d wait, down %v, not %d, %d, %v", what, d.Ops(), d.Waits(), d.Down(), ops, waits, down)
		}
	}
}

// notMade returns disks that neither New nor Load returned: none, one without anything, and copies of those that they returned.
func notMade(t *testing.T) map[string]*Disk {
	t.Helper()
	d, _ := made(t, 2)
	d.Write(0, full("pending"))
	d.Fuse(0)
	d.Flush()
	n, _ := New(1)
	copied, copiedNew := *d, *n
	var list [2]Disk
	return map[string]*Disk{"nil": nil, "zero": {}, "new": new(Disk), "element": &list[1], "copy": &copied, "copy of a new one": &copiedNew}
}

// P9.1: New of the least and the greatest numbers, and of ordinary ones: zero bytes, no pending writes, no fuse.
func TestNew(t *testing.T) {
	for _, n := range []int{1, 2, 3, 7, 100, most - 1, most} {
		d, e := New(n)
		if d == nil || e != api.OK {
			t.Fatalf("New(%d): %v %d", n, d, e)
		}
		expectSame(t, "New of "+strconv.Itoa(n), d, loadByWords(strings.Repeat("\x00", n*sectorBytes)))
	}
}

// P9.1: New of numbers of which there is no disk.
func TestNewWrong(t *testing.T) {
	for _, n := range []int{0, -1, -2, -most, math.MinInt, math.MinInt + 1, most + 1, most + 2, 1 << 20, 1 << 32, 1<<32 + 1, 1 << 57, 1<<57 + 1, math.MaxInt - 1, math.MaxInt} {
		if d, e := New(n); d != nil || e != api.ErrRange {
			t.Errorf("New(%d): %v %d", n, d, e)
		}
	}
}

// P9.1: Load of the shortest and the longest images, and of ordinary ones: the image, no pending writes, no fuse.
func TestLoad(t *testing.T) {
	for _, n := range []int{1, 2, 3, 7, 100, most - 1, most} {
		d, w := made(t, n)
		expectSame(t, "Load of "+strconv.Itoa(n), d, w)
	}
	for _, s := range []string{strings.Repeat("\x00", sectorBytes), strings.Repeat("\xff", 3*sectorBytes)} {
		d, e := Load(s)
		expectErr(t, "Load of equal bytes", e, api.OK)
		expectSame(t, "Load of equal bytes", d, loadByWords(s))
	}
}

// P9.1: Load of texts that are no image.
func TestLoadWrong(t *testing.T) {
	longest := most * sectorBytes
	long := strings.Repeat("x", longest+2*sectorBytes)
	for _, n := range []int{0, 1, 64, 126, 127, 129, 130, 255, 257, 1000, longest - 1, longest + 1, longest + 127, longest + 128, longest + 129, longest + 256} {
		if d, e := Load(long[:n]); d != nil || e != api.ErrArg {
			t.Errorf("Load of %d bytes: %v %d", n, d, e)
		}
	}
}

// P9.1: a disk loaded from the image of another one has its durable contents alone, and nothing in common with it.
func TestLoadImage(t *testing.T) {
	d, w := made(t, 4)
	expectSteps(t, d, w, step{kind: 'w', n: 1, s: full("durable")}, step{kind: 'f'}, step{kind: 'w', n: 2, s: full("pending")}, step{kind: 'u', n: 0}, step{kind: 'f'})
	image := d.Image()
	other, e := Load(image)
	expectErr(t, "Load of an image", e, api.OK)
	v := loadByWords(image)
	expectSame(t, "the other", other, v)
	expectSteps(t, other, v, step{kind: 'w', n: 0, s: full("other")}, step{kind: 'f'}, step{kind: 's', n: 400, s: "abc"}, step{kind: 'w', n: 3, s: full("more")})
	expectSame(t, "the one", d, w)
	expectSteps(t, d, w, step{kind: 'p', keep: []bool{true}}, step{kind: 's', n: 0, s: "xyz"})
	expectSame(t, "the other behind that", other, v)
}

// P9.1: two disks that New returned have nothing in common.
func TestTwoDisks(t *testing.T) {
	a, _ := New(2)
	b, _ := New(2)
	zero := loadByWords(strings.Repeat("\x00", 2*sectorBytes))
	a.Write(0, full("a"))
	a.Flush()
	a.Write(1, full("a"))
	a.Fuse(0)
	a.Flush()
	expectSame(t, "the other", b, zero)
}

// P9.2: sectors 0, the last one, -1 and one beyond the last, of small and of great disks.
func TestSectors(t *testing.T) {
	for _, n := range []int{1, 2, 3, most - 1, most} {
		d, w := made(t, n)
		for _, i := range []int{0, n - 1, n / 2} {
			s := full("sector " + strconv.Itoa(i))
			expectErr(t, "Write", d.Write(i, s), w.write(i, s))
			expectRead(t, "pending", d, i, s)
		}
		for _, i := range []int{-1, -2, n, n + 1, most, math.MinInt, math.MaxInt, 1 << 32, 1<<57 + n - 1, -1 << 57} {
			if i >= 0 && i < n {
				continue
			}
			expectErr(t, "Write into "+strconv.Itoa(i), d.Write(i, full("none")), api.ErrRange)
			if s, e := d.Read(i); s != "" || e != api.ErrRange {
				t.Errorf("Read(%d): %q %d", i, s, e)
			}
		}
		expectSame(t, "a disk of "+strconv.Itoa(n), d, w)
	}
}

// P9.2: a Write of no byte, and of one byte less and one byte more than a sector, is rejected, and is no operation.
func TestWriteLengths(t *testing.T) {
	d, w := made(t, 2)
	d.Fuse(1)
	w.hasFuse, w.left = true, 1
	for _, n := range []int{0, 1, 127, 129, 255, 256, 1 << 20} {
		expectErr(t, strconv.Itoa(n)+" bytes", d.Write(0, strings.Repeat("x", n)), api.ErrArg)
	}
	expectSame(t, "behind wrong lengths", d, w)
	expectSteps(t, d, w, step{kind: 'w', n: 0, s: full("128 bytes")}, step{kind: 'w', n: 1, s: full("cut")})
}

// P9.2: two Writes of one sector, and Writes of two sectors in turn: Read returns the last one of each, before and behind a Flush.
func TestWritesInTurn(t *testing.T) {
	d, _ := made(t, 3)
	zero, one := full("image 0"), full("image 1")
	expectErr(t, "the first", d.Write(1, full("a")), api.OK)
	expectRead(t, "one Write", d, 1, full("a"))
	expectRead(t, "the other sector", d, 0, zero)
	expectErr(t, "the second", d.Write(1, full("b")), api.OK)
	expectRead(t, "two Writes", d, 1, full("b"))
	for i, told := range []string{"c", "d", "e", "f", "g"} {
		expectErr(t, told, d.Write(i%2, full(told)), api.OK)
		expectRead(t, "in turn", d, i%2, full(told))
	}
	expectCounts(t, "before a Flush", d, 7, 7, false)
	if d.Image() != zero+one+full("image 2") {
		t.Error("pending writes are in the image")
	}
	expectErr(t, "Flush", d.Flush(), api.OK)
	expectCounts(t, "behind a Flush", d, 8, 0, false)
	if d.Image() != full("g")+full("f")+full("image 2") {
		t.Error("the image isn't that of the last Writes")
	}
	for i, s := range []string{full("g"), full("f"), full("image 2")} {
		expectRead(t, "behind a Flush", d, i, s)
	}
	d.Write(0, zero)
	expectRead(t, "a Write behind a Flush", d, 0, zero)
	expectRead(t, "the other sector behind a Flush", d, 1, full("f"))
}

// P9.2: of two errors that apply, the first one is returned.
func TestErrorsInOrder(t *testing.T) {
	short := "short"
	for what, d := range notMade(t) {
		for _, i := range []int{-1, 0, 1, math.MaxInt, math.MinInt} {
			for _, s := range []string{short, "", full("x")} {
				expectErr(t, what+": Write", d.Write(i, s), api.ErrNil)
				expectErr(t, what+": Spoil", d.Spoil(i, s), api.ErrNil)
			}
		}
	}
	d, w := made(t, 2)
	expectErr(t, "no sector, and no 128 bytes", d.Write(2, short), api.ErrRange)
	expectErr(t, "no sector, and no byte", d.Write(-1, ""), api.ErrRange)
	d.Fuse(0)
	w.hasFuse = true
	expectErr(t, "no sector, and would be cut", d.Write(2, full("x")), api.ErrRange)
	expectErr(t, "no 128 bytes, and would be cut", d.Write(0, short), api.ErrArg)
	expectSame(t, "behind what was rejected", d, w)
	expectSteps(t, d, w, step{kind: 'f'})
	for _, i := range []int{-1, 0, 2} {
		for _, s := range []string{short, "", full("x")} {
			expectErr(t, "down: Write", d.Write(i, s), api.ErrDown)
		}
		if s, e := d.Read(i); s != "" || e != api.ErrDown {
			t.Errorf("down: Read(%d): %q %d", i, s, e)
		}
	}
	expectSame(t, "behind what was rejected while down", d, w)
	expectErr(t, "down: Spoil beyond the end", d.Spoil(256, "x"), api.ErrRange)
	expectErr(t, "down: Spoil", d.Spoil(255, "x"), api.OK)
}

// P9.1 to P9.5: each call of a disk that neither New nor Load returned, before and behind each other call.
func TestNotMade(t *testing.T) {
	for what, d := range notMade(t) {
		for _, s := range allSteps(1) {
			s.do(d)
			for i := -1; i < 3; i++ {
				if s, e := d.Read(i); s != "" || e != api.ErrNil {
					t.Errorf("%s: Read(%d): %q %d", what, i, s, e)
				}
			}
			expectErr(t, what+": Write", d.Write(0, full("x")), api.ErrNil)
			expectErr(t, what+": Flush", d.Flush(), api.ErrNil)
			expectErr(t, what+": Spoil", d.Spoil(0, "x"), api.ErrNil)
			expectErr(t, what+": Spoil of nothing", d.Spoil(0, ""), api.ErrNil)
			expectCounts(t, what, d, 0, 0, false)
			if d.Len() != 0 || d.Image() != "" {
				t.Errorf("%s: Len %d, Image %q", what, d.Len(), d.Image())
			}
		}
	}
}

// P9.1 to P9.5: what is called of a copy changes nothing of the disk that was copied, and that one goes on.
func TestCopied(t *testing.T) {
	d, w := made(t, 2)
	expectSteps(t, d, w, step{kind: 'w', n: 0, s: full("a")}, step{kind: 'f'}, step{kind: 'w', n: 0, s: full("b")}, step{kind: 'u', n: 2})
	copied := *d
	for _, s := range allSteps(3) {
		s.do(&copied)
		expectSame(t, s.told()+" of the copy", d, w)
	}
	expectSteps(t, d, w, step{kind: 'w', n: 1, s: full("c")}, step{kind: 'f'}, step{kind: 'f'})
}

// P9.5: each place of Spoil that the words name, and others.
func TestSpoil(t *testing.T) {
	const n = 3 * sectorBytes
	long := strings.Repeat("\x01\x80\xff\x00", n/2)
	for _, k := range []struct{ at, length int }{
		{0, 1}, {0, 0}, {0, 128}, {0, n}, {0, n - 1}, {1, n - 1}, {127, 1}, {127, 2}, {128, 1}, {100, 200}, {127, 130}, {128, 256},
		{n - 1, 1}, {n - 2, 2}, {n - 1, 0}, {n, 0}, {n / 2, n / 2}, {200, 3},
	} {
		for _, by := range []string{long[:k.length], long[2 : k.length+2], strings.Repeat("\x00", k.length), strings.Repeat("\xe2\x82\xac", n)[:k.length]} {
			d, w := made(t, 3)
			image := d.Image()
			s := step{kind: 's', n: k.at, s: by}
			expectSteps(t, d, w, s)
			spoilt := d.Image()
			for i := range len(image) {
				want := image[i]
				if i >= k.at && i < k.at+k.length {
					want ^= by[i-k.at]
				}
				if spoilt[i] != want {
					t.Fatalf("%s: byte %d is %d, not %d", s.told(), i, spoilt[i], want)
				}
			}
			expectSteps(t, d, w, s)
			if d.Image() != image {
				t.Errorf("%s twice: the image is another one", s.told())
			}
			expectCounts(t, s.told(), d, 0, 0, false)
		}
	}
}

// P9.5: Spoil of bytes of which not all exist changes nothing.
func TestSpoilWrong(t *testing.T) {
	for _, n := range []int{1, 3} {
		d, w := made(t, n)
		end := n * sectorBytes
		for _, k := range []struct{ at, length int }{
			{-1, 0}, {-1, 1}, {-1, 2}, {-1, end}, {-1, end + 1}, {-2, 0}, {math.MinInt, 0}, {math.MinInt, 1}, {math.MinInt, end}, {math.MinInt + 1, end + 1},
			{end + 1, 0}, {end, 1}, {end - 1, 2}, {end + 1, 1}, {0, end + 1}, {1, end}, {end, end}, {0, 3 * end}, {2 * end, 0},
			{math.MaxInt, 0}, {math.MaxInt, 1}, {math.MaxInt, end}, {math.MaxInt - 1, 2}, {math.MaxInt - 1, 0}, {1 << 32, 0}, {1 << 32, 1},
		} {
			expectErr(t, strconv.Itoa(k.at)+" "+strconv.Itoa(k.length), d.Spoil(k.at, strings.Repeat("x", k.length)), api.ErrRange)
			expectSame(t, strconv.Itoa(k.at)+" "+strconv.Itoa(k.length), d, w)
		}
	}
}

// P9.5: Spoil of a sector with a pending write, which is not affected, whether it is lost or becomes durable.
func TestSpoilPending(t *testing.T) {
	before, pending := full("image 0"), full("pending")
	spoilt := string([]byte{before[0] ^ 1, before[1] ^ 2}) + before[2:]
	for what, k := range map[string]struct {
		behind step
		want   string
	}{"Flush": {step{kind: 'f'}, pending}, "kept": {step{kind: 'p', keep: []bool{true}}, pending}, "lost": {step{kind: 'p'}, spoilt}} {
		d, w := made(t, 2)
		expectSteps(t, d, w, step{kind: 'w', n: 0, s: pending})
		expectErr(t, what, d.Spoil(0, "\x01\x02"), api.OK)
		w.spoil(0, "\x01\x02")
		expectCounts(t, what, d, 1, 1, false)
		expectRead(t, what+": pending", d, 0, pending)
		if d.Image()[:sectorBytes] != spoilt {
			t.Errorf("%s: the durable bytes are not those that were spoilt", what)
		}
		expectSteps(t, d, w, k.behind)
		expectRead(t, what, d, 0, k.want)
	}
}

// Rule 4: an Image and a Read stand unchanged whatever is called behind them.
func TestResultsStand(t *testing.T) {
	for _, behind := range allSteps(4) {
		d, w := made(t, 2)
		expectSteps(t, d, w, step{kind: 'w', n: 1, s: full("pending")})
		image := d.Image()
		durable, _ := d.Read(0)
		pending, _ := d.Read(1)
		expectSteps(t, d, w, behind, step{kind: 'w', n: 0, s: full("a")}, step{kind: 'w', n: 1, s: full("b")}, step{kind: 'f'},
			step{kind: 's', n: 0, s: strings.Repeat("\xff", 2*sectorBytes)}, step{kind: 'p'}, step{kind: 'w', n: 1, s: full("c")}, step{kind: 'f'})
		if image != imageOf(2) || durable != full("image 0") || pending != full("pending") {
			t.Errorf("%s: %q, %q or the image was changed", behind.told(), durable, pending)
		}
	}
}

// Rule 4: what a program does with the bytes from which it made what it passes changes nothing of the disk.
func TestArgumentsNotKept(t *testing.T) {
	b := []byte(imageOf(2))
	d, e := Load(string(b))
	expectErr(t, "Load", e, api.OK)
	s := []byte(full("pending"))
	expectErr(t, "Write", d.Write(1, string(s)), api.OK)
	clear(b)
	clear(s)
	expectRead(t, "the image", d, 0, full("image 0"))
	expectRead(t, "the pending write", d, 1, full("pending"))
}
