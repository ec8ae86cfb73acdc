package journal

import (
	"fmt"
	"slices"
	"testing"

	"sheaf/api"
	"sheaf/disk"
)

// choices returns all lists for Power of n elements.
func choices(n int) [][]bool {
	var l [][]bool
	for bits := range 1 << n {
		keep := make([]bool, n)
		for i := range keep {
			keep[i] = bits>>i&1 == 1
		}
		l = append(l, keep)
	}
	return l
}

// survivors returns what the sectors have behind Power, of which these writes were pending.
func survivors(pending []write, keep []bool) map[int]string {
	left := map[int]string{}
	for k, w := range pending {
		if keep[k] {
			left[w.sector] = w.s
		}
	}
	return left
}

// begun returns a disk on which some writes are pending.
func begun(t *testing.T, sectors int, ahead []write) *disk.Disk {
	t.Helper()
	d := loaded(t, sectors)
	for _, w := range ahead {
		expectErr(t, "ahead", d.Write(w.sector, w.s), api.OK)
	}
	return d
}

// appended is an Append of so many bytes, behind so many.
type appended struct{ journal, used, n int }

// someAppended returns Appends that begin and end amid a sector, at its ends, and at those of the area of a disk of 7 sectors; none of them writes more than four sectors.
func someAppended() []appended {
	return []appended{
		{1, 0, 0}, {5, 129, 0}, {5, 640, 0}, {1, 0, 1}, {1, 0, 128}, {1, 1, 127}, {1, 127, 1}, {4, 1, 126}, {4, 127, 2}, {4, 128, 128}, {4, 128, 129}, {4, 129, 127}, {4, 129, 128}, {4, 200, 300}, {4, 200, 312}, {4, 511, 1}, {4, 0, 512}, {5, 0, 500}, {5, 600, 40}, {5, 250, 262},
	}
}

// expectCut cuts the power at an operation of an Append, or behind the last one, and holds what is left for a choice of the pending writes.
func expectCut(t *testing.T, sectors int, c appended, ahead []write, fuse int, keep []bool) {
	t.Helper()
	s := text(c.used+c.n, c.n)
	w := begun(t, sectors, ahead)
	before := areaByWords(w, c.journal)[:c.used]
	writes := writesOf(w, c.journal, c.used, s)
	what := fmt.Sprintf("%d bytes behind %d of %d sectors, %d ahead, cut at %d, keep %v", c.n, c.used, c.journal, len(ahead), fuse, keep)

	d := begun(t, sectors, ahead)
	d.Fuse(fuse)
	n, e := Append(d, c.journal, c.used, s)
	want, wantE := c.used+c.n, api.OK
	pending := slices.Concat(ahead, writes)
	if fuse < len(writes) {
		want, wantE = 0, api.ErrDown
		pending = pending[:len(ahead)+fuse+1]
	}
	if n != want || e != wantE || d.Down() != (e == api.ErrDown) || d.Waits() != len(pending) || d.Ops() != len(pending) || d.Image() != loaded(t, sectors).Image() {
		t.Errorf("%s: %d %d, down %v, %d wait of %d", what, n, e, d.Down(), d.Waits(), len(pending))
	}
	if d.Down() {
		expectRefused(t, what, d, c.journal, c.used, s, api.ErrDown, api.ErrDown)
		expectRefused(t, what, d, c.journal, c.used, "", api.ErrDown, api.ErrDown)
	} else if got, e := Load(d, c.journal, want); got != before+s || e != api.OK {
		t.Errorf("%s: not cut: %q %d", what, got, e)
	}
	d.Power(keep)
	expectSectors(t, what, d, survivors(pending, keep))
	if len(ahead) > 0 {
		return
	}
	if got, e := Load(d, c.journal, c.used); got != before || e != api.OK {
		t.Errorf("%s: the first bytes: %q %d, not %q", what, got, e, before)
	}
}

// P13.4, P13.6: Append that is cut at each of its operations, with each choice of the pending writes that survive: what is ahead of it does not change.
func TestAppendCut(t *testing.T) {
	others := []write{{3, text(11, 128)}, {0, text(12, 128)}, {3, text(13, 128)}}
	for _, c := range someAppended() {
		for _, ahead := range [][]write{nil, others} {
			writes := len(writesOf(begun(t, 7, ahead), c.journal, c.used, text(1, c.n)))
			for fuse := range writes + 1 {
				for _, keep := range choices(len(ahead) + min(fuse+1, writes)) {
					expectCut(t, 7, c, ahead, fuse, keep)
				}
			}
		}
	}
}

// P13.6: a Flush behind Append that is cut, and one that is not: behind this one the first bytes are followed by the others, whatever is kept.
func TestFlushCut(t *testing.T) {
	for _, c := range someAppended() {
		s := text(c.used+c.n, c.n)
		fresh := loaded(t, 7)
		before := areaByWords(fresh, c.journal)[:c.used]
		writes := writesOf(fresh, c.journal, c.used, s)
		for fuse := range 3 {
			for _, keep := range choices(len(writes)) {
				what := fmt.Sprintf("%d bytes behind %d, a Flush with a fuse of %d, keep %v", c.n, c.used, fuse, keep)
				d := loaded(t, 7)
				end, e := Append(d, c.journal, c.used, s)
				expectErr(t, what, e, api.OK)
				d.Fuse(fuse)
				flushed := d.Flush()
				d.Power(keep)
				if got, e := Load(d, c.journal, c.used); got != before || e != api.OK {
					t.Errorf("%s: the first bytes: %q %d, not %q", what, got, e, before)
				}
				left := survivors(writes, keep)
				if fuse > 0 {
					expectErr(t, what, flushed, api.OK)
					left = survivors(writes, slices.Repeat([]bool{true}, len(writes)))
					if got, e := Load(d, c.journal, end); got != before+s || e != api.OK {
						t.Errorf("%s: %q %d, not %q and %q", what, got, e, before, s)
					}
				} else {
					expectErr(t, what, flushed, api.ErrDown)
				}
				expectSectors(t, what, d, left)
			}
		}
	}
}

// P13.6: transactions that are appended and flushed one after the other, cut at each operation: those that were flushed are read, whatever is kept, and the next one is appended behind them.
func TestTransactionsCut(t *testing.T) {
	next := anyNumbers(17)
	var all [][]api.Rec
	var texts []string
	for range 6 {
		l := anyTx(next)
		s, e := Tx(l...)
		expectErr(t, "Tx", e, api.OK)
		all, texts = append(all, l), append(texts, s)
	}
	for fuse := range 200 {
		for _, kept := range []int{0, 1, 2, 5, 0xa, 1<<30 - 1} {
			d := loaded(t, 30)
			d.Fuse(fuse)
			used, n := 0, 0
			for ; n < len(texts); n++ {
				end, e := Append(d, 28, used, texts[n])
				if e != api.OK || d.Flush() != api.OK {
					break
				}
				used = end
			}
			if n == len(texts) {
				continue
			}
			keep := make([]bool, d.Waits())
			for i := range keep {
				keep[i] = kept>>i&1 == 1
			}
			d.Power(keep)
			what := fmt.Sprintf("cut at %d, keep %v", fuse, keep)
			got, e := Load(d, 28, used)
			expectErr(t, what, e, api.OK)
			expectRead(t, what, got, all[:n], api.OK)
			end, e := Append(d, 28, used, texts[n])
			expectErr(t, what, e, api.OK)
			got, _ = Load(d, 28, end)
			expectRead(t, what+", and gone on", got, all[:n+1], api.OK)
		}
	}
}

// doAny does a step of any kind: a call, a Flush, a Fuse or a Power.
func doAny(t *testing.T, p two, place int, next func(below int) int) {
	t.Helper()
	journal := next(p.w.Len() + 1)
	used := next(journal*sectorBytes + 2)
	switch k := next(20); {
	case k < 10:
		room := max(journal*sectorBytes-used, 0)
		s := text(place, next(min(room, 1+next(700))+2))
		if end, e := doAppend(t, p, journal, used, s); e == api.OK {
			if got, _ := doLoad(t, p, journal, end); got[used:] != s {
				t.Errorf("Load of Append: %q, not %q", got[used:], s)
			}
		}
	case k < 14:
		doLoad(t, p, journal, used)
	case k < 16:
		p.both(func(d *disk.Disk) { d.Flush() })
	case k < 18:
		n := next(20) - 5
		p.both(func(d *disk.Disk) { d.Fuse(n) })
	default:
		keep := make([]bool, next(p.w.Waits()+3))
		for i := range keep {
			keep[i] = next(2) == 1
		}
		p.both(func(d *disk.Disk) { d.Power(keep) })
		expectDisks(t, "Power", p)
	}
}

// P13.3 to P13.6: long histories, with power failures.
func TestLongHistories(t *testing.T) {
	for seed, sectors := range []int{1, 2, 3, 4, 5, 8, 16, 40} {
		for k := range 5 {
			next := anyNumbers(uint32(10*seed + k))
			p := twoOf(t, sectors)
			for place := range 200 {
				doAny(t, p, place, next)
			}
		}
	}
}

func FuzzArea(f *testing.F) {
	f.Add(1, "")
	f.Add(8, "\x00\x01\x02\x03\x04\x05\x03\x01\x09\x02\x05\x03")
	f.Add(64, "abcdefghijklmnopqrstuvwxyz")
	f.Fuzz(func(t *testing.T, sectors int, choices string) {
		if sectors < 1 || sectors > 200 {
			return
		}
		p := twoOf(t, sectors)
		at := 0
		next := func(below int) int {
			if at >= len(choices) {
				at++
				return at % below
			}
			at++
			return int(choices[at-1]) * 257 % below
		}
		for place := 0; at < len(choices) && place < 200; place++ {
			doAny(t, p, place, next)
		}
	})
}
