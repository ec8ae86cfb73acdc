package disk

import (
	"math"
	"slices"
	"strconv"
	"testing"

	"sheaf/api"
)

// The document's example: a Write, followed by Power with an empty list, is lost; behind Write, Flush and Power it is durable.
func TestExample(t *testing.T) {
	for _, keep := range [][]bool{nil, {}} {
		d, _ := made(t, 1)
		before := d.Image()
		expectErr(t, "Write", d.Write(0, full("a")), api.OK)
		d.Power(keep)
		expectRead(t, "Write, Power", d, 0, before)
		expectErr(t, "Write", d.Write(0, full("a")), api.OK)
		expectErr(t, "Flush", d.Flush(), api.OK)
		d.Power(keep)
		expectRead(t, "Write, Flush, Power", d, 0, full("a"))
		if d.Image() != full("a") {
			t.Error("the image is not what was flushed")
		}
	}
}

// P9.3: Flush without pending writes, once and again, is an operation, and changes nothing.
func TestFlushNothing(t *testing.T) {
	d, _ := made(t, 2)
	image := d.Image()
	for n := range 3 {
		expectErr(t, "Flush", d.Flush(), api.OK)
		expectCounts(t, "Flush", d, n+1, 0, false)
	}
	d.Write(1, full("a"))
	d.Flush()
	d.Flush()
	if d.Image() != image[:sectorBytes]+full("a") {
		t.Error("another Flush changed the image")
	}
	expectCounts(t, "two Flushes", d, 6, 0, false)
}

// P9.3: a fuse of each number of operations: so many are executed, with a Write or a Flush as the one that is cut.
func TestFuse(t *testing.T) {
	for n := range 7 {
		for _, cut := range []step{{kind: 'w', n: 1, s: full("cut")}, {kind: 'f'}} {
			d, w := made(t, 2)
			expectSteps(t, d, w, step{kind: 'w', n: 0, s: full("before")}, step{kind: 'u', n: n})
			for k := range n {
				s := step{kind: 'w', n: k % 2, s: full("executed " + strconv.Itoa(k))}
				if k == 2 {
					s = step{kind: 'f'}
				}
				expectSteps(t, d, w, s)
				expectCounts(t, "executed", d, 2+k, d.Waits(), false)
			}
			waits := d.Waits()
			expectErr(t, "cut", cut.do(d), api.ErrDown)
			cut.doByWords(w)
			if cut.kind == 'w' {
				waits++
			}
			expectCounts(t, "cut", d, 2+n, waits, true)
			expectSame(t, "cut", d, w)
		}
	}
}

// P9.3: no fuse, a fuse below 0, and one of more operations than come, cut nothing.
func TestFuseThatCutsNothing(t *testing.T) {
	for _, n := range []int{-1, -2, math.MinInt, 21, 1000, math.MaxInt} {
		for _, ahead := range [][]step{nil, {{kind: 'u', n: 0}}, {{kind: 'u', n: 5}}} {
			d, w := made(t, 2)
			expectSteps(t, d, w, append(slices.Clone(ahead), step{kind: 'u', n: n})...)
			for k := range 10 {
				expectSteps(t, d, w, step{kind: 'w', n: k % 2, s: full(strconv.Itoa(k))}, step{kind: 'f'})
			}
			expectCounts(t, "a fuse of "+strconv.Itoa(n), d, 20, 0, false)
		}
	}
}

// P9.3: a fuse that is set anew counts from then on, whatever the one before it had left.
func TestFuseAnew(t *testing.T) {
	for _, first := range []int{1, 2, 3, 100, -1} {
		for second := range 4 {
			d, w := made(t, 1)
			expectSteps(t, d, w, step{kind: 'u', n: first}, step{kind: 'f'}, step{kind: 'u', n: second})
			for range second {
				expectErr(t, "executed", d.Flush(), api.OK)
				w.flush()
			}
			expectErr(t, "cut", d.Flush(), api.ErrDown)
			w.flush()
			expectSame(t, "fuses of "+strconv.Itoa(first)+", "+strconv.Itoa(second), d, w)
		}
	}
}

// P9.3: a Write that is cut is pending nevertheless, as the last one of its sector: it survives, or is lost.
func TestWriteCut(t *testing.T) {
	for _, keep := range [][]bool{{true, true}, {true, false}, {false, true}, {false, false}, {true}, nil} {
		d, _ := made(t, 1)
		want := d.Image()
		expectErr(t, "Write", d.Write(0, full("executed")), api.OK)
		d.Fuse(0)
		expectErr(t, "Write that is cut", d.Write(0, full("cut")), api.ErrDown)
		expectCounts(t, "cut", d, 2, 2, true)
		if d.Image() != want {
			t.Error("a Write that is cut changed the image")
		}
		for i, told := range []string{"executed", "cut"} {
			if i < len(keep) && keep[i] {
				want = full(told)
			}
		}
		d.Power(keep)
		expectCounts(t, "Power", d, 2, 0, false)
		expectRead(t, "Power", d, 0, want)
	}
}

// P9.3: a Flush that is cut does nothing else: all writes are pending still, and none is durable.
func TestFlushCut(t *testing.T) {
	d, w := made(t, 2)
	image := d.Image()
	expectSteps(t, d, w, step{kind: 'w', n: 0, s: full("a")}, step{kind: 'w', n: 1, s: full("b")}, step{kind: 'u', n: 0})
	expectErr(t, "Flush that is cut", d.Flush(), api.ErrDown)
	w.flush()
	expectCounts(t, "cut", d, 3, 2, true)
	if d.Image() != image {
		t.Error("a Flush that is cut changed the image")
	}
	expectSteps(t, d, w, step{kind: 'p', keep: []bool{false, true}})
	if d.Image() != image[:sectorBytes]+full("b") {
		t.Error("not the write that was kept is durable")
	}
}

// P9.3: calls that are rejected, or are neither Write nor Flush, are no operations: they burn no fuse.
func TestNoOperations(t *testing.T) {
	d, w := made(t, 2)
	d.Fuse(1)
	w.hasFuse, w.left = true, 1
	for range 3 {
		d.Write(-1, full("x"))
		d.Write(2, full("x"))
		d.Write(0, "x")
		d.Write(0, "")
		d.Read(0)
		d.Read(2)
		d.Spoil(0, "\x00")
		d.Spoil(-1, "\x00")
		d.Image()
		d.Len()
		d.Down()
		d.Waits()
		d.Ops()
	}
	expectSame(t, "behind what is no operation", d, w)
	expectSteps(t, d, w, step{kind: 'w', n: 0, s: full("executed")}, step{kind: 'f'})
	expectCounts(t, "cut", d, 2, 1, true)
	for range 3 {
		expectErr(t, "Write while down", d.Write(0, full("x")), api.ErrDown)
		expectErr(t, "Flush while down", d.Flush(), api.ErrDown)
	}
	expectCounts(t, "rejected while down", d, 2, 1, true)
	d.Power(nil)
	expectCounts(t, "Power", d, 2, 0, false)
}

// P9.3, P9.4: a fuse that is set while the disk is down brings it up as little as it outlasts Power.
func TestFuseWhileDown(t *testing.T) {
	for _, n := range []int{-1, 0, 1, 5} {
		d, w := made(t, 1)
		expectSteps(t, d, w, step{kind: 'u', n: 0}, step{kind: 'w', n: 0, s: full("cut")}, step{kind: 'u', n: n}, step{kind: 'f'}, step{kind: 'p', keep: []bool{true}})
		for range n + 3 {
			expectSteps(t, d, w, step{kind: 'f'})
		}
		expectCounts(t, "behind Power", d, 1+n+3, 0, false)
	}
}

// P9.4: Power takes away a fuse, also that of a disk whose power is on, and each later Power does the same.
func TestPowerFuse(t *testing.T) {
	d, w := made(t, 1)
	for n := range 3 {
		expectSteps(t, d, w, step{kind: 'u', n: n}, step{kind: 'p'})
		for range 4 {
			expectErr(t, "behind Power", d.Flush(), api.OK)
			w.flush()
		}
		expectSteps(t, d, w, step{kind: 'u', n: 0}, step{kind: 'f'}, step{kind: 'p'}, step{kind: 'p'}, step{kind: 'f'})
	}
}

// lists returns all lists for Power of up to n elements.
func lists(n int) [][]bool {
	l := [][]bool{nil, {}}
	for size := 1; size <= n; size++ {
		for bits := range 1 << size {
			keep := make([]bool, size)
			for i := range keep {
				keep[i] = bits>>i&1 == 1
			}
			l = append(l, keep)
		}
	}
	return l
}

// pendingSteps returns four Writes of two sectors, so that each sector is written twice, in turn.
func pendingSteps() []step {
	var l []step
	for i := range 4 {
		l = append(l, step{kind: 'w', n: i % 2, s: full("pending " + strconv.Itoa(i))})
	}
	return l
}

// P9.4: all lists that are empty, shorter than the pending writes, just as long, and longer; of a disk whose power is on, and of one that is down.
func TestPower(t *testing.T) {
	for _, keep := range lists(6) {
		given := slices.Clone(keep)
		for _, down := range [][]step{nil, {{kind: 'u', n: 0}, {kind: 'f'}}, {{kind: 'u', n: 100}}} {
			d, w := made(t, 3)
			expectSteps(t, d, w, append(pendingSteps(), down...)...)
			ops := d.Ops()
			expectSteps(t, d, w, step{kind: 'p', keep: keep})
			expectCounts(t, "Power", d, ops, 0, false)
			expectSteps(t, d, w, step{kind: 'f'}, step{kind: 'p', keep: keep})
			expectCounts(t, "Power again", d, ops+1, 0, false)
		}
		if !slices.Equal(keep, given) {
			t.Fatalf("Power changed its list %v to %v", given, keep)
		}
	}
}

// P9.4: true and false in turn, of many pending writes of as many sectors.
func TestPowerInTurn(t *testing.T) {
	for _, size := range []int{0, 1, 399, 400, 401, 1000} {
		for first := range 2 {
			keep := make([]bool, size)
			for i := range keep {
				keep[i] = i%2 == first
			}
			d, w := made(t, 100)
			for i := range 400 {
				s := full("write " + strconv.Itoa(i))
				expectErr(t, "Write", d.Write(i*7%100, s), w.write(i*7%100, s))
			}
			expectSteps(t, d, w, step{kind: 'p', keep: keep})
		}
	}
}

// P9.4, rule 4: a list that is changed behind the call changes nothing, neither what is durable nor what a later Power keeps.
func TestPowerListChanged(t *testing.T) {
	d, w := made(t, 2)
	expectSteps(t, d, w, step{kind: 'w', n: 0, s: full("a")}, step{kind: 'w', n: 1, s: full("b")})
	keep := []bool{true, false}
	d.Power(keep)
	w.power([]bool{true, false})
	keep[0], keep[1] = false, true
	expectSame(t, "a list that was changed", d, w)
	expectSteps(t, d, w, step{kind: 'w', n: 0, s: full("c")}, step{kind: 'w', n: 1, s: full("d")}, step{kind: 'p'})
	expectSteps(t, d, w, step{kind: 'w', n: 0, s: full("e")}, step{kind: 'w', n: 1, s: full("f")}, step{kind: 'f'})
}

// P9.4: what was pending before a Flush or Power counts no more: the list is that of what is pending since.
func TestPowerSince(t *testing.T) {
	for _, ahead := range []step{{kind: 'f'}, {kind: 'p'}, {kind: 'p', keep: []bool{true, true, true, true}}} {
		for _, keep := range lists(3) {
			d, w := made(t, 2)
			expectSteps(t, d, w, pendingSteps()...)
			expectSteps(t, d, w, ahead, step{kind: 'w', n: 1, s: full("a")}, step{kind: 'w', n: 0, s: full("b")}, step{kind: 'p', keep: keep})
		}
	}
}

// P9.6: the contents behind a Flush are those behind Power where no later pending write of the sector is kept; each sector has the contents of one of its pending writes, or those.
func TestWhatWasFlushed(t *testing.T) {
	later := []struct {
		sector int
		told   string
	}{{1, "a"}, {0, "b"}, {1, "c"}, {1, "d"}, {3, "e"}}
	for _, keep := range lists(len(later)) {
		d, w := made(t, 4)
		expectSteps(t, d, w, append(pendingSteps(), step{kind: 'w', n: 2, s: full("two")}, step{kind: 'f'})...)
		flushed := make([]string, d.Len())
		may := make([][]string, d.Len())
		for i := range flushed {
			flushed[i], _ = d.Read(i)
			may[i] = []string{flushed[i]}
		}
		kept := map[int]bool{}
		for i, l := range later {
			expectErr(t, "Write", d.Write(l.sector, full(l.told)), api.OK)
			may[l.sector] = append(may[l.sector], full(l.told))
			kept[l.sector] = kept[l.sector] || i < len(keep) && keep[i]
		}
		d.Power(keep)
		for i := range flushed {
			s, e := d.Read(i)
			if e != api.OK || !slices.Contains(may[i], s) || !kept[i] && s != flushed[i] || kept[i] && s == flushed[i] {
				t.Errorf("keep %v: sector %d has %q, flushed %q", keep, i, s, flushed[i])
			}
		}
	}
}

// P9.3, P9.4: a disk of all sectors, each with a pending write, and a great many of one sector.
func TestMany(t *testing.T) {
	d, w := made(t, most)
	keep := make([]bool, most)
	for i := range most {
		s := full("first " + strconv.Itoa(i))
		expectErr(t, "Write", d.Write(most-1-i, s), w.write(most-1-i, s))
		keep[i] = i%3 == 0
	}
	expectSteps(t, d, w, step{kind: 'p', keep: keep})
	for i := range most {
		s := full("second " + strconv.Itoa(i))
		expectErr(t, "Write", d.Write(i, s), w.write(i, s))
	}
	expectCounts(t, "all sectors", d, 2*most, most, false)
	expectErr(t, "Flush", d.Flush(), api.OK)
	for i := range most {
		expectRead(t, "all sectors", d, i, full("second "+strconv.Itoa(i)))
	}
	d, _ = made(t, 2)
	for i := range 100000 {
		expectErr(t, "Write", d.Write(1, full(strconv.Itoa(i))), api.OK)
	}
	expectCounts(t, "one sector", d, 100000, 100000, false)
	expectRead(t, "one sector", d, 1, full("99999"))
	keep = make([]bool, 70000)
	keep[69999] = true
	d.Power(keep)
	if d.Image() != full("image 0")+full("69999") {
		t.Error("not the write that was kept is durable")
	}
}
