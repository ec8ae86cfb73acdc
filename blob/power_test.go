package blob

import (
	"fmt"
	"slices"
	"testing"

	"sheaf/api"
	"sheaf/disk"
)

// write is a write that a call is to make.
type write struct {
	sector int
	s      string
}

// writesOf returns the writes that a Put makes, in order.
func writesOf(l []api.Run, s string) []write {
	var all []write
	for k, i := range eachByWords(l) {
		all = append(all, write{i, filled(s)[128*k:][:128]})
	}
	return all
}

// choices returns all lists for Power of n elements.
func choices(n int) [][]bool {
	var l [][]bool
	for bits := range 1 << n {
		keep := make([]bool, n)
		for i := range keep {
			keep[i] = bits>>i&1 == 1
		}
		l = append(l, keep)
	}
	return l
}

// survivors returns what the sectors have behind Power, of which these writes were pending.
func survivors(pending []write, keep []bool) map[int]string {
	left := map[int]string{}
	for k, w := range pending {
		if keep[k] {
			left[w.sector] = w.s
		}
	}
	return left
}

// expectCuts cuts the power at each operation of a call, and behind the last one, where some writes are pending ahead of it, with each choice of the pending writes that survive.
func expectCuts(t *testing.T, what string, sectors int, ahead, writes []write, call func(d *disk.Disk) api.Errno) {
	t.Helper()
	for n := range len(writes) + 1 {
		pending, want := slices.Concat(ahead, writes), api.OK
		if n < len(writes) {
			pending, want = pending[:len(ahead)+n+1], api.ErrDown
		}
		for _, keep := range choices(len(pending)) {
			d := loaded(t, sectors)
			for _, w := range ahead {
				expectErr(t, "ahead", d.Write(w.sector, w.s), api.OK)
			}
			d.Fuse(n)
			name := fmt.Sprintf("%s, cut at %d, keep %v", what, n, keep)
			expectErr(t, name, call(d), want)
			if d.Waits() != len(pending) || d.Ops() != len(pending) || d.Down() != (want == api.ErrDown) || d.Image() != loaded(t, sectors).Image() {
				t.Errorf("%s: %d wait of %d, %d operations, down %v", name, d.Waits(), len(pending), d.Ops(), d.Down())
			}
			if d.Down() {
				expectDown(t, name, d)
			}
			d.Power(keep)
			expectSectors(t, name, d, survivors(pending, keep))
		}
	}
}

// expectDown holds that nothing is done on a disk that is down.
func expectDown(t *testing.T, what string, d *disk.Disk) {
	t.Helper()
	ops := d.Ops()
	expectErr(t, what+": Put while down", Put(d, runs(0, 1), "x"), api.ErrDown)
	expectErr(t, what+": Put of nothing while down", Put(d, nil, ""), api.ErrDown)
	expectErr(t, what+": Copy while down", Copy(d, runs(0, 1), runs(1, 1), 1), api.ErrDown)
	expectErr(t, what+": Copy of nothing while down", Copy(d, nil, nil, 0), api.ErrDown)
	for size, l := range map[int][]api.Run{0: nil, 1: runs(0, 1)} {
		if s, e := Get(d, l, size); s != "" || e != api.ErrDown {
			t.Errorf("%s: Get of %d bytes while down: %q %d", what, size, s, e)
		}
	}
	if d.Ops() != ops {
		t.Errorf("%s: operations while down", what)
	}
}

// P12.2, P12.6: Put that is cut at each of its operations.
func TestPutCut(t *testing.T) {
	ahead := []write{{3, text(11, 128)}, {0, text(12, 128)}, {3, text(13, 128)}}
	for _, c := range []struct {
		l    []api.Run
		size int
	}{
		{nil, 0}, {runs(3, 1), 1}, {runs(5, 1), 127}, {runs(0, 1), 128}, {runs(5, 1, 3, 1), 129}, {runs(2, 2), 256}, {runs(4, 2, 0, 1), 300}, {runs(0, 4), 500}, {runs(5, 1, 3, 2, 0, 1), 512},
	} {
		s := text(c.size, c.size)
		put := func(d *disk.Disk) api.Errno { return Put(d, c.l, s) }
		what := fmt.Sprintf("Put of %d bytes in %s", c.size, told(c.l))
		expectCuts(t, what, 6, nil, writesOf(c.l, s), put)
		expectCuts(t, what+" behind others", 6, ahead, writesOf(c.l, s), put)
	}
}

// P12.4, P12.6: Copy that is cut at each of its operations, of what was flushed, and of what is pending.
func TestCopyCut(t *testing.T) {
	for _, c := range []struct {
		from, to []api.Run
		size     int
	}{
		{nil, nil, 0}, {runs(3, 1), runs(0, 1), 1}, {runs(3, 1), runs(7, 1), 128}, {runs(3, 2), runs(7, 1, 1, 1), 129}, {runs(0, 1, 6, 2), runs(2, 3), 300}, {runs(4, 4), runs(0, 4), 512},
	} {
		move := func(d *disk.Disk) api.Errno { return Copy(d, c.from, c.to, c.size) }
		what := fmt.Sprintf("Copy of %d bytes from %s to %s", c.size, told(c.from), told(c.to))
		flushed, _ := getByWords(loaded(t, 8), c.from, c.size)
		expectCuts(t, what, 8, nil, writesOf(c.to, flushed), move)
		s := text(c.size, c.size)
		expectCuts(t, what+" that is pending", 8, writesOf(c.from, s), writesOf(c.to, s), move)
	}
}

// P12.6: a Flush behind Put that is cut, and one that is not: of this one's writes all are there, whatever is kept.
func TestFlushCut(t *testing.T) {
	l, s := runs(5, 1, 2, 2), text(8, 300)
	for n := range 3 {
		for _, keep := range choices(3) {
			d := loaded(t, 6)
			expectErr(t, "Put", Put(d, l, s), api.OK)
			d.Fuse(n)
			want, left := api.OK, survivors(writesOf(l, s), []bool{true, true, true})
			if n == 0 {
				want, left = api.ErrDown, survivors(writesOf(l, s), keep)
			}
			expectErr(t, "Flush", d.Flush(), want)
			d.Power(keep)
			expectSectors(t, fmt.Sprintf("a Flush with a fuse of %d, keep %v", n, keep), d, left)
		}
	}
}

// P12.6: what was put and flushed is got behind a power failure, while another Put or Copy to other runs was cut at each of its operations, whatever is kept of it.
func TestFlushed(t *testing.T) {
	first, second := runs(6, 1, 1, 2), runs(3, 1, 7, 1, 0, 1)
	s, other := text(20, 384), text(21, 300)
	calls := map[string]func(d *disk.Disk) api.Errno{
		"Put":  func(d *disk.Disk) api.Errno { return Put(d, second, other) },
		"Copy": func(d *disk.Disk) api.Errno { return Copy(d, first, second, 384) },
	}
	for what, call := range calls {
		for n := range 5 {
			for _, keep := range choices(4) {
				d := loaded(t, 8)
				expectErr(t, "Put", Put(d, first, s), api.OK)
				expectErr(t, "Flush", d.Flush(), api.OK)
				d.Fuse(n)
				want := api.OK
				if n < 3 {
					want = api.ErrDown
				}
				expectErr(t, what, call(d), want)
				d.Power(keep)
				if got, e := Get(d, first, 384); got != s || e != api.OK {
					t.Errorf("%s, cut at %d, keep %v: Get: %q %d", what, n, keep, got, e)
				}
				image, _ := disk.Load(d.Image())
				if got, e := Get(image, first, 384); got != s || e != api.OK {
					t.Errorf("%s, cut at %d, keep %v: Get of the image: %q %d", what, n, keep, got, e)
				}
			}
		}
	}
}

// P12.6: Put over what was flushed in the same runs, cut at each of its operations: each sector has the old bytes or the new ones.
func TestFlushedOver(t *testing.T) {
	l := runs(4, 2, 0, 1)
	old, s := text(30, 384), text(31, 380)
	for n := range 4 {
		for _, keep := range choices(min(n+1, 3)) {
			d := loaded(t, 6)
			expectErr(t, "Put", Put(d, l, old), api.OK)
			expectErr(t, "Flush", d.Flush(), api.OK)
			d.Fuse(n)
			Put(d, l, s)
			d.Power(keep)
			want := ""
			for k := range 3 {
				if k < len(keep) && keep[k] {
					want += filled(s)[128*k:][:128]
				} else {
					want += old[128*k:][:128]
				}
			}
			if got, e := Get(d, l, 384); got != want || e != api.OK {
				t.Errorf("cut at %d, keep %v: %q %d, not %q", n, keep, got, e, want)
			}
		}
	}
}

// anyRuns returns runs for a disk of so many sectors, that fit in most cases.
func anyRuns(sectors, n int, next func(below int) int) []api.Run {
	var l []api.Run
	for range 40 {
		if n == 0 {
			break
		}
		r := api.Run{At: next(sectors + 1), Len: 1 + next(n)}
		if next(40) == 0 {
			r.At, r.Len = r.At-2, r.Len-1
		}
		if validByWords(append(slices.Clone(l), r), sectors) || next(90) == 0 {
			l = append(l, r)
			n -= r.Len
		}
	}
	return l
}

// doAny does a step of any kind: a call, a Flush, a Fuse or a Power.
func doAny(t *testing.T, p two, place int, next func(below int) int) {
	t.Helper()
	need := next(7)
	size := max(need*sectorBytes-next(sectorBytes+9), 0)
	l := anyRuns(p.w.Len(), need, next)
	switch k := next(20); {
	case k < 7:
		if s := text(place, size); doPut(t, p, l, s) == api.OK && doGet(t, p, l, size) != s {
			t.Errorf("Get of Put: %d bytes in %s", size, told(l))
		}
	case k < 11:
		doGet(t, p, l, size)
	case k < 15:
		doCopy(t, p, l, anyRuns(p.w.Len(), need, next), size)
	case k < 17:
		p.both(func(d *disk.Disk) { d.Flush() })
	case k < 18:
		n := next(20) - 5
		p.both(func(d *disk.Disk) { d.Fuse(n) })
	default:
		keep := make([]bool, next(p.w.Waits()+3))
		for i := range keep {
			keep[i] = next(2) == 1
		}
		p.both(func(d *disk.Disk) { d.Power(keep) })
		expectSame(t, "Power", p)
	}
}

// P12.2 to P12.6: long histories, with power failures.
func TestLongHistories(t *testing.T) {
	for seed, sectors := range []int{1, 2, 3, 5, 8, 16, 40, 64} {
		for k := range 5 {
			next := anyNumbers(uint32(10*seed + k))
			p := twoOf(t, sectors)
			for place := range 200 {
				doAny(t, p, place, next)
			}
		}
	}
}

func FuzzBlob(f *testing.F) {
	f.Add(1, "")
	f.Add(8, "\x00\x01\x02\x03\x04\x05\x03\x01\x09\x02\x05\x03")
	f.Add(64, "abcdefghijklmnopqrstuvwxyz")
	f.Fuzz(func(t *testing.T, sectors int, choices string) {
		if sectors < 1 || sectors > 200 {
			return
		}
		p := twoOf(t, sectors)
		at := 0
		next := func(below int) int {
			if at >= len(choices) {
				at++
				return at % below
			}
			at++
			return int(choices[at-1]) * 257 % below
		}
		for place := 0; at < len(choices) && place < 200; place++ {
			doAny(t, p, place, next)
		}
	})
}
