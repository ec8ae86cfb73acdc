package journal

import (
	"fmt"
	"math"
	"slices"
	"strings"
	"testing"

	"sheaf/api"
	"sheaf/disk"
)

// expectSectors holds what the sectors of a disk have, by their numbers, and that all others are as a loaded disk has them.
func expectSectors(t *testing.T, what string, d *disk.Disk, want map[int]string) {
	t.Helper()
	fresh := loaded(t, d.Len())
	for i := range d.Len() {
		is, ok := want[i]
		if !ok {
			is, _ = fresh.Read(i)
		}
		if s, e := d.Read(i); s != is || e != api.OK {
			t.Errorf("%s: sector %d has %q %d, not %q", what, i, s, e, is)
		}
	}
}

// journalsFor returns numbers of a journal's sectors at all edges, for a disk.
func journalsFor(sectors int) []int {
	return once(math.MinInt, math.MinInt+1, -1<<57, -most, -2, -1, 0, 1, 2, 3, sectors-4, sectors-3, sectors-2, sectors-1, sectors, sectors+1, most-2, most-1, most, 1<<32, 1<<32+1, 1<<56, 1<<57, 1<<57+1, 1<<62, math.MaxInt-1, math.MaxInt)
}

// usedFor returns numbers of bytes at all edges, for a journal.
func usedFor(journal int) []int {
	l := []int{math.MinInt, math.MinInt + 1, -1 << 32, -sectorBytes, -2, -1, 0, 1, 2, 126, 127, 128, 129, 255, 256, 257, 300, 1 << 32, 1<<32 + 1, math.MaxInt - 127, math.MaxInt - 1, math.MaxInt}
	if journal > 0 && journal <= most {
		all := journal * sectorBytes
		l = append(l, all-129, all-128, all-127, all-2, all-1, all, all+1, all+2, all+127, all+128, all+129)
	}
	return once(l...)
}

// once returns each number of a list once.
func once(l ...int) []int {
	slices.Sort(l)
	return slices.Compact(l)
}

// P13.3: Load of journals and of numbers of bytes at all edges, on disks of all sorts of lengths.
func TestLoad(t *testing.T) {
	for _, sectors := range []int{1, 2, 3, 4, 5, 6, 40} {
		p := twoOf(t, sectors)
		for _, journal := range journalsFor(sectors) {
			for _, used := range usedFor(journal) {
				doLoad(t, p, journal, used)
			}
		}
	}
}

// P13.3: the area begins with sector 2; what is pending is read, and nothing is written.
func TestLoadKnown(t *testing.T) {
	p := twoOf(t, 6)
	image := p.d.Image()
	for used := range 4*sectorBytes + 1 {
		for journal := 1; journal <= 4; journal++ {
			want, wantE := image[2*sectorBytes:][:used], api.OK
			if used > journal*sectorBytes {
				want, wantE = "", api.ErrArg
			}
			if s, e := Load(p.d, journal, used); s != want || e != wantE {
				t.Errorf("%d bytes of %d sectors: %q %d, not %q %d", used, journal, s, e, want, wantE)
			}
		}
	}
	if p.d.Ops() != 0 {
		t.Errorf("%d operations", p.d.Ops())
	}
	s := text(3, sectorBytes)
	p.both(func(d *disk.Disk) { d.Write(3, s) })
	if got, _ := doLoad(t, p, 4, 300); got != image[2*sectorBytes:3*sectorBytes]+s+image[4*sectorBytes:][:44] {
		t.Errorf("what is pending: %q", got)
	}
	p.both(func(d *disk.Disk) { d.Power(nil) })
	if got, _ := doLoad(t, p, 4, 300); got != image[2*sectorBytes:][:300] {
		t.Errorf("what was lost: %q", got)
	}
	d, _ := disk.New(5)
	if got, e := Load(d, 3, 384); got != strings.Repeat("\x00", 384) || e != api.OK {
		t.Errorf("a new disk: %q %d", got, e)
	}
}

// lengthsFor returns lengths at all edges behind so many bytes of a disk's journal, if there are so many; none is above what there is room for by more than some sectors.
func lengthsFor(d *disk.Disk, journal, used int) []int {
	if !inArea(d, journal, used) {
		return []int{0, 1, 300}
	}
	room, left := journal*sectorBytes-used, sectorBytes-used%sectorBytes
	l := []int{0, 1, 2, 127, 128, 129, 256, 300, room - 129, room - 128, room - 1, room, room + 1, room + 2, room + 128, room + 129, left - 1, left, left + 1, left + 127, left + 128, left + 129}
	return once(slices.DeleteFunc(l, func(n int) bool { return n < 0 })...)
}

// P13.4, P13.5: Append of texts of all lengths at edges, with journals and numbers of bytes at all edges, on disks of all sorts of lengths.
func TestAppend(t *testing.T) {
	for _, sectors := range []int{1, 2, 3, 4, 5, 6, 12} {
		fresh := loaded(t, sectors)
		for _, journal := range journalsFor(sectors) {
			for _, used := range usedFor(journal) {
				for _, n := range lengthsFor(fresh, journal, used) {
					p := twoOf(t, sectors)
					ahead, _ := loadByWords(p.w, journal, used)
					s := text(used, n)
					if end, e := doAppend(t, p, journal, used, s); e == api.OK {
						if got, _ := doLoad(t, p, journal, end); got != ahead+s || end != used+n {
							t.Errorf("Load of Append: %q, not %q and %q", got, ahead, s)
						}
					}
				}
			}
		}
	}
}

// P13.4: what the sector at used holds before and behind it, and what all other sectors hold; nothing is flushed, and each sector is written once, in order.
func TestAppendKnown(t *testing.T) {
	zero := func(n int) string { return strings.Repeat("\x00", n) }
	image := loaded(t, 7).Image()
	old := func(sector, n int) string { return image[sector*sectorBytes:][:n] }
	s := text(8, 1000)
	for _, c := range []struct {
		used, n int
		want    map[int]string
	}{
		{0, 0, nil}, {5, 0, nil}, {128, 0, nil}, {512, 0, nil},
		{0, 1, map[int]string{2: s[:1] + zero(127)}},
		{0, 127, map[int]string{2: s[:127] + zero(1)}},
		{0, 128, map[int]string{2: s[:128]}},
		{0, 129, map[int]string{2: s[:128], 3: s[128:129] + zero(127)}},
		{1, 1, map[int]string{2: old(2, 1) + s[:1] + zero(126)}},
		{1, 127, map[int]string{2: old(2, 1) + s[:127]}},
		{1, 128, map[int]string{2: old(2, 1) + s[:127], 3: s[127:128] + zero(127)}},
		{127, 1, map[int]string{2: old(2, 127) + s[:1]}},
		{127, 2, map[int]string{2: old(2, 127) + s[:1], 3: s[1:2] + zero(127)}},
		{128, 1, map[int]string{3: s[:1] + zero(127)}},
		{129, 1, map[int]string{3: old(3, 1) + s[:1] + zero(126)}},
		{200, 300, map[int]string{3: old(3, 72) + s[:56], 4: s[56:184], 5: s[184:300] + zero(12)}},
		{200, 312, map[int]string{3: old(3, 72) + s[:56], 4: s[56:184], 5: s[184:312]}},
		{384, 128, map[int]string{5: s[:128]}},
		{511, 1, map[int]string{5: old(5, 127) + s[:1]}},
		{0, 512, map[int]string{2: s[:128], 3: s[128:256], 4: s[256:384], 5: s[384:512]}},
	} {
		what := fmt.Sprintf("%d bytes behind %d", c.n, c.used)
		d := loaded(t, 7)
		if n, e := Append(d, 4, c.used, s[:c.n]); n != c.used+c.n || e != api.OK {
			t.Errorf("%s: %d %d", what, n, e)
		}
		expectSectors(t, what, d, c.want)
		if d.Image() != image || d.Waits() != len(c.want) || d.Ops() != len(c.want) {
			t.Errorf("%s: something was flushed, or %d wait of %d, %d operations", what, d.Waits(), len(c.want), d.Ops())
		}
		for kept := range len(c.want) {
			d := loaded(t, 7)
			Append(d, 4, c.used, s[:c.n])
			d.Power(slices.Repeat([]bool{true}, kept))
			first := map[int]string{}
			for i := 2; len(first) < kept; i++ {
				if sector, ok := c.want[i]; ok {
					first[i] = sector
				}
			}
			expectSectors(t, what+", the first writes alone", d, first)
		}
	}
}

// P13.4: one byte more than there is room for, and a great many; nothing is written.
func TestAppendFull(t *testing.T) {
	for _, sectors := range []int{3, 4, 7} {
		for journal := 1; journal <= sectors-2; journal++ {
			d := loaded(t, sectors)
			for used := range journal*sectorBytes + 1 {
				for _, more := range []int{1, 2, 127, 128, 129} {
					s := strings.Repeat("x", journal*sectorBytes-used+more)
					if n, e := Append(d, journal, used, s); n != 0 || e != api.ErrFull {
						t.Errorf("%d bytes behind %d of %d sectors: %d %d", len(s), used, journal, n, e)
					}
				}
			}
			if n, e := Append(d, journal, 1, strings.Repeat("x", 1<<24)); n != 0 || e != api.ErrFull {
				t.Errorf("a great many: %d %d", n, e)
			}
			if d.Ops() != 0 {
				t.Errorf("%d operations", d.Ops())
			}
			if n, e := Append(d, journal, journal*sectorBytes, ""); n != journal*sectorBytes || e != api.OK || d.Ops() != 0 {
				t.Errorf("nothing behind a full area: %d %d", n, e)
			}
		}
	}
}

// P13.3 to P13.5: the greatest disk, in one piece, and transaction by transaction up to the area's end.
func TestGreatest(t *testing.T) {
	all := (most - 2) * sectorBytes
	p := twoOf(t, most)
	image := p.d.Image()
	for _, journal := range []int{1, 8, most - 3, most - 2, most - 1, most, most + 1} {
		for _, used := range []int{0, 1, 127, 128, 129, 1024, journal*sectorBytes - 1, journal * sectorBytes, journal*sectorBytes + 1} {
			want, wantE := "", api.ErrArg
			if journal <= most-2 && used <= journal*sectorBytes {
				want, wantE = image[2*sectorBytes:][:used], api.OK
			}
			if s, e := Load(p.d, journal, used); s != want || e != wantE {
				t.Errorf("%d bytes of %d sectors: %d bytes, %d", used, journal, len(s), e)
			}
		}
	}
	s := text(6, all)
	doAppend(t, p, most-2, 0, s)
	if got, e := doLoad(t, p, most-2, all); got != s || e != api.OK {
		t.Errorf("Load of Append: %d bytes, %d", len(got), e)
	}
	if n, e := Append(p.d, most-2, all, "x"); n != 0 || e != api.ErrFull {
		t.Errorf("one byte more: %d %d", n, e)
	}
	if n, e := Append(p.d, most-1, 0, "x"); n != 0 || e != api.ErrArg {
		t.Errorf("one sector more: %d %d", n, e)
	}
	tx, _ := txByWords(slices.Repeat([]api.Rec{greatest()}, 500))
	d, used, n := loaded(t, most), 0, 0
	for ; n < all/len(tx); n++ {
		end, e := Append(d, most-2, used, tx)
		if e != api.OK || end != used+len(tx) {
			t.Fatalf("Append %d: %d %d", n, end, e)
		}
		used = end
		expectErr(t, "Flush", d.Flush(), api.OK)
	}
	if end, e := Append(d, most-2, used, tx); n < 10 || end != 0 || e != api.ErrFull {
		t.Errorf("behind %d transactions: %d %d", n, end, e)
	}
	got, e := Load(d, most-2, used)
	l, readE := Read(got)
	if e != api.OK || readE != api.OK || len(l) != n || !sameByWords(l[n-1][499], greatest()) {
		t.Errorf("Load: %d bytes, %d; Read: %d transactions, %d", len(got), e, len(l), readE)
	}
}

// P13.5: transactions that are appended one after the other are loaded and read, each time, as they were.
func TestJournal(t *testing.T) {
	next := anyNumbers(31)
	for round := range 20 {
		p := twoOf(t, 40)
		used, journal := 0, 1+next(38)
		var all [][]api.Rec
		for {
			l := anyTx(next)
			s, e := Tx(l...)
			expectErr(t, "Tx", e, api.OK)
			n, e := doAppend(t, p, journal, used, s)
			if e == api.ErrFull {
				break
			}
			used, all = n, append(all, l)
			got, _ := doLoad(t, p, journal, used)
			expectRead(t, fmt.Sprint("round ", round), got, all, api.OK)
			if next(3) == 0 {
				p.both(func(d *disk.Disk) { d.Flush() })
			}
		}
	}
}

// expectRefused holds the errors of both calls, where nothing is returned and nothing done.
func expectRefused(t *testing.T, what string, d *disk.Disk, journal, used int, s string, load, app api.Errno) {
	t.Helper()
	ops, waits := d.Ops(), d.Waits()
	for range 2 {
		if got, e := Load(d, journal, used); got != "" || e != load {
			t.Errorf("%s: Load of %d bytes of %d sectors: %q %d, not %d", what, used, journal, got, e, load)
		}
		if n, e := Append(d, journal, used, s); n != 0 || e != app {
			t.Errorf("%s: Append of %d bytes behind %d of %d sectors: %d %d, not %d", what, len(s), used, journal, n, e, app)
		}
	}
	if d.Ops() != ops || d.Waits() != waits {
		t.Errorf("%s: something was done", what)
	}
}

// P13.3, P13.4, the errors' order: a disk that was not created comes ahead of all, then what there is not, then what is full, then a disk that is down.
func TestErrors(t *testing.T) {
	made := loaded(t, 6)
	copied := *made
	for what, d := range map[string]*disk.Disk{"nil": nil, "not created": {}, "new": new(disk.Disk), "copied": &copied} {
		for _, journal := range journalsFor(6) {
			for _, used := range usedFor(journal) {
				for _, s := range []string{"", "x", text(1, 600)} {
					expectRefused(t, what, d, journal, used, s, api.ErrNil, api.ErrNil)
				}
			}
		}
	}
	for what, d := range map[string]*disk.Disk{"up": made, "down": downOf(t, 6)} {
		for _, journal := range journalsFor(6) {
			for _, used := range usedFor(journal) {
				if !inArea(made, journal, used) {
					for _, s := range []string{"", "x", text(1, 600)} {
						expectRefused(t, what, d, journal, used, s, api.ErrArg, api.ErrArg)
					}
				}
			}
		}
		for sectors := 1; sectors <= 2; sectors++ {
			expectRefused(t, "no area", loaded(t, sectors), sectors-2, 0, "", api.ErrArg, api.ErrArg)
			expectRefused(t, "no area, down", downOf(t, sectors), 1, 0, "", api.ErrArg, api.ErrArg)
		}
	}
	down := downOf(t, 6)
	for journal := 1; journal <= 4; journal++ {
		for _, used := range []int{0, 1, 127, 128, journal*sectorBytes - 1, journal * sectorBytes} {
			room := journal*sectorBytes - used
			for _, n := range []int{0, 1, room - 1, room} {
				if n >= 0 && n <= room {
					expectRefused(t, "down", down, journal, used, text(1, n), api.ErrDown, api.ErrDown)
				}
			}
			for _, n := range []int{1, 2, 128, 1000} {
				expectRefused(t, "down, and full", down, journal, used, text(1, room+n), api.ErrDown, api.ErrFull)
			}
		}
	}
	if down.Image() != loaded(t, 6).Image() || made.Ops() != 0 {
		t.Error("something was done")
	}
}
