package manifest

import (
	"fmt"
	"math"
	"slices"
	"testing"

	"sheaf/api"
)

// edgeInts returns numbers at the edges of an entry's Len and Slot, and such as come round to them where numbers have bounds.
func edgeInts() []int {
	return []int{math.MinInt, math.MinInt + 1, math.MinInt32, -65536, -4096, -256, -2, -1, 0, 1, 2, 254, 255, 256, 257, 4095, 4096, 4097, 4098, 8192, 65535, 65536, 65537, 1 << 31, 1 << 32, 1<<32 + 1, 1<<32 + 255, math.MaxInt - 1, math.MaxInt}
}

func edgeIDs() []uint32 {
	return []uint32{0, 1, 2, 255, 256, 1 << 16, 1 << 31, mostID - 1, mostID, mostID + 1}
}

// edgeNumbers returns numbers of entries.
func edgeNumbers() []int {
	return []int{0, 1, 2, 3, 255, 256, 257, 258, 300, 512, 513, 65535, 65536, 65537}
}

// P15.1, P15.2: IDs at the edges, with lists that a manifest may have, and others.
func TestCheckIDs(t *testing.T) {
	for _, id := range edgeIDs() {
		for _, n := range []int{0, 1, 2, 256, 257} {
			m := listOf(id, n)
			want := api.ErrArg
			if id != 0 && id != 1<<32-1 && n >= 1 && n <= 256 {
				want = api.OK
			}
			expectErr(t, told(m), Check(m), want)
			expectPut(t, "an ID", m)
			expectAny(t, "an ID", m)
		}
	}
	expectErr(t, "nothing", Check(api.Manifest{}), api.ErrArg)
	expectErr(t, "an ID alone", Check(api.Manifest{ID: 1, Entries: []api.Entry{}}), api.ErrArg)
}

// P15.1, P15.2: numbers of entries at the edges, and all that there may be.
func TestCheckNumbers(t *testing.T) {
	for n := range 260 {
		expectPut(t, "a number", listOf(9, n))
	}
	for _, n := range edgeNumbers() {
		m := listOf(mostID, n)
		want := api.ErrArg
		if n >= 1 && n <= 256 {
			want = api.OK
		}
		expectErr(t, told(m), Check(m), want)
		expectPut(t, "a number", m)
		expectPut(t, "all the same", api.Manifest{ID: 1, Entries: slices.Repeat([]api.Entry{entry(5)}, n)})
	}
}

// expectEntry holds a manifest with an entry alone, first, last and amid others.
func expectEntry(t *testing.T, what string, x api.Entry, valid bool) {
	t.Helper()
	want := api.ErrArg
	if valid {
		want = api.OK
	}
	for _, others := range []int{0, 1, 2, 4, 255} {
		for at := range others + 1 {
			if at > 4 && at < others-1 && at%63 != 0 {
				continue
			}
			m := listOf(3, others)
			m.Entries = slices.Insert(m.Entries, at, x)
			expectErr(t, fmt.Sprintf("%s at %d of %d", what, at, others+1), Check(m), want)
			if at < 3 || at == others {
				expectPut(t, fmt.Sprintf("%s at %d", what, at), m)
			}
		}
	}
	expectAny(t, what, api.Manifest{ID: 3, Entries: []api.Entry{x, entry(1), x}})
}

// P15.1, P15.2: a Len at the edges.
func TestCheckLens(t *testing.T) {
	for _, n := range edgeInts() {
		x := entry(50)
		x.Len = n
		expectEntry(t, fmt.Sprint("Len ", n), x, n >= 1 && n <= 4096)
	}
	for n := 1; n <= mostLen; n += 61 {
		expectPut(t, "a Len", with(listOf(1, 2), 1, api.Entry{Len: n, Box: 1}))
	}
}

// P15.1, P15.2: a Box at the edges.
func TestCheckBoxes(t *testing.T) {
	for _, box := range edgeIDs() {
		x := entry(50)
		x.Box = box
		expectEntry(t, fmt.Sprint("Box ", box), x, box != 0 && box != 1<<32-1)
	}
}

// P15.1, P15.2: a Slot at the edges, and all that there may be.
func TestCheckSlots(t *testing.T) {
	for _, slot := range edgeInts() {
		x := entry(50)
		x.Slot = slot
		expectEntry(t, fmt.Sprint("Slot ", slot), x, slot >= 0 && slot <= 255)
	}
	for slot := range 256 {
		expectPut(t, "a Slot", with(listOf(1, 2), 0, api.Entry{Len: 1, Box: 1, Slot: slot}))
	}
}

// P15.1: what a manifest may have does not depend on its fingerprints, or on whether its entries, or their places, are the
// same.
func TestCheckContents(t *testing.T) {
	for _, f := range []api.Fp{{}, {1}, {31: 1}, {0: 255, 31: 255}, printOf(3)} {
		x := api.Entry{Fp: f, Len: 4096, Box: mostID, Slot: 255}
		y := api.Entry{Fp: f, Len: 1, Box: 1}
		for _, l := range [][]api.Entry{{x}, {y}, {x, x}, {x, y}, {y, x, y}, slices.Repeat([]api.Entry{x}, 256), slices.Repeat([]api.Entry{x, y}, 128)} {
			m := api.Manifest{ID: mostID, Entries: l}
			expectErr(t, told(m), Check(m), api.OK)
			expectPut(t, "contents", m)
		}
	}
}

// P15.1, P15.2: entries of which several fields are out of their bounds.
func TestCheckWrong(t *testing.T) {
	for _, x := range []api.Entry{{}, {Len: -1, Slot: -1}, {Len: math.MinInt, Box: mostID + 1, Slot: math.MinInt}, {Len: math.MaxInt, Box: mostID + 1, Slot: math.MaxInt}, {Len: 1, Slot: 256}, {Box: 1}, {Len: 1}, {Fp: printOf(1)}} {
		expectEntry(t, fmt.Sprint("a wrong entry, ", x.Len, x.Box, x.Slot), x, false)
		for _, n := range []int{1, 2, 256, 257} {
			for _, id := range []uint32{0, 1, mostID + 1} {
				m := api.Manifest{ID: id, Entries: slices.Repeat([]api.Entry{x}, n)}
				expectErr(t, told(m), Check(m), api.ErrArg)
				expectPut(t, "wrong entries", m)
				expectAny(t, "wrong entries", m)
			}
		}
	}
}

// P15.1: numbers of entries at the edges, and the document's example.
func TestSize(t *testing.T) {
	if n := Size(1); n != 54 {
		t.Errorf("Size of 1: %d", n)
	}
	if n := Size(256); n != 10254 {
		t.Errorf("Size of 256: %d", n)
	}
	for n := -300; n < 600; n++ {
		if got, want := Size(n), sizeByWords(n); got != want {
			t.Errorf("Size of %d: %d, not %d", n, got, want)
		}
	}
	for _, n := range append(edgeInts(), math.MaxInt/40, math.MaxInt/40+1, math.MinInt/40, 1<<61, 1<<61+1, 1<<61+5, -1<<61) {
		if got, want := Size(n), sizeByWords(n); got != want {
			t.Errorf("Size of %d: %d, not %d", n, got, want)
		}
	}
}

// changed returns entries that differ from one in one field alone, among them each byte of its Fp.
func changed(x api.Entry) []api.Entry {
	var l []api.Entry
	for i := range x.Fp {
		for _, by := range []byte{1, 128, 255} {
			y := x
			y.Fp[i] ^= by
			l = append(l, y)
		}
	}
	for _, n := range []int{-x.Len, x.Len + 1, x.Len + 1<<16, x.Len + 1<<32, math.MinInt, math.MaxInt} {
		y := x
		y.Len = n
		l = append(l, y)
	}
	for _, by := range []uint32{1, 1 << 16, 1 << 31} {
		y := x
		y.Box ^= by
		l = append(l, y)
	}
	for _, n := range []int{-1 - x.Slot, x.Slot + 1, x.Slot + 1<<16, x.Slot + 1<<32, math.MinInt, math.MaxInt} {
		y := x
		y.Slot = n
		l = append(l, y)
	}
	return l
}

// P15.1: Same of manifests that differ in one thing alone.
func TestSameOne(t *testing.T) {
	expect := func(what string, a, b api.Manifest, want bool) {
		t.Helper()
		keptEntries(t, what, a, func(a api.Manifest) {
			keptEntries(t, what, b, func(b api.Manifest) {
				if Same(a, b) != want || Same(b, a) != want || sameByWords(a, b) != want {
					t.Errorf("Same: %s: not %v: %s; %s", what, want, told(a), told(b))
				}
			})
		})
	}
	for _, n := range []int{1, 2, 5, 256, 300} {
		m := listOf(4, n)
		expect("equal ones", m, listOf(4, n), true)
		for _, id := range edgeIDs() {
			expect("another ID", m, api.Manifest{ID: id, Entries: m.Entries}, false)
		}
		for _, at := range []int{0, n / 2, n - 1} {
			for _, y := range changed(m.Entries[at]) {
				expect("a field", m, with(m, at, y), false)
			}
			expect("fewer", m, api.Manifest{ID: 4, Entries: m.Entries[:at]}, false)
			expect("one less", m, api.Manifest{ID: 4, Entries: slices.Delete(slices.Clone(m.Entries), at, at+1)}, false)
			expect("one more", m, api.Manifest{ID: 4, Entries: slices.Insert(slices.Clone(m.Entries), at, entry(999))}, false)
			expect("one twice", m, api.Manifest{ID: 4, Entries: slices.Insert(slices.Clone(m.Entries), at, m.Entries[at])}, false)
			if at > 0 {
				other := with(with(m, at, m.Entries[at-1]), at-1, m.Entries[at])
				expect("another order", m, other, false)
			}
		}
	}
	expect("nil and empty", api.Manifest{ID: 4}, api.Manifest{ID: 4, Entries: []api.Entry{}}, true)
	expect("nothing and nothing", api.Manifest{}, api.Manifest{}, true)
	expect("nothing and an ID", api.Manifest{}, api.Manifest{ID: 1}, false)
	expect("none and an empty entry", api.Manifest{ID: 4}, api.Manifest{ID: 4, Entries: make([]api.Entry, 1)}, false)
}

// P15.1: Same of all pairs of manifests, with such as are not valid.
func TestSameAll(t *testing.T) {
	x, y := entry(1), entry(2)
	var all []api.Manifest
	for _, id := range []uint32{0, 1, mostID, mostID + 1} {
		for _, l := range [][]api.Entry{nil, {}, {x}, {y}, {x, x}, {x, y}, {y, x}, {x, y, x}, {x, x, y}, {y, x, x}, {{}}, {{}, {}}, {{}, x}, {x, {}}, slices.Repeat([]api.Entry{x}, 256), slices.Repeat([]api.Entry{x}, 257)} {
			all = append(all, api.Manifest{ID: id, Entries: l})
		}
	}
	for _, a := range all {
		for _, b := range all {
			if got, want := Same(a, b), sameByWords(a, b); got != want {
				t.Errorf("Same: %v: %s; %s", got, told(a), told(b))
			}
		}
	}
}

// lensOf returns a manifest with entries of these Lens.
func lensOf(lens ...int) api.Manifest {
	m := listOf(1, len(lens))
	for i, n := range lens {
		m.Entries[i].Len = n
	}
	return m
}

// P15.3: the document's example; no entry, Lens below 0, and Lens whose sum lies beyond every int.
func TestBytes(t *testing.T) {
	for _, c := range []struct {
		lens []int
		want int
	}{
		{nil, 0}, {[]int{5, 7}, 12}, {[]int{0}, 0}, {[]int{-1}, -1}, {[]int{-1, -5, 4}, -2}, {slices.Repeat([]int{4096}, 256), 1 << 20}, {slices.Repeat([]int{4096}, 300), 300 * 4096},
		{[]int{math.MaxInt}, math.MaxInt}, {[]int{math.MinInt}, math.MinInt}, {[]int{math.MaxInt, 1}, math.MinInt}, {[]int{1, math.MaxInt}, math.MinInt}, {[]int{math.MinInt, -1}, math.MaxInt}, {[]int{math.MaxInt, math.MinInt}, -1},
		{[]int{math.MinInt, math.MinInt}, 0}, {[]int{math.MaxInt, math.MaxInt}, -2}, {[]int{math.MaxInt, math.MaxInt, 5}, 3}, {[]int{math.MinInt, math.MinInt, 7}, 7}, {slices.Repeat([]int{1 << 62}, 4), 0}, {slices.Repeat([]int{1 << 62}, 5), 1 << 62},
	} {
		m := lensOf(c.lens...)
		if n := Bytes(m); n != c.want {
			t.Errorf("Bytes of %v: %d, not %d", few(c.lens), n, c.want)
		}
		expectAny(t, "Lens", m)
	}
	next := anyNumbers(15)
	for range 500 {
		var lens []int
		for range next(300) {
			lens = append(lens, edgeInts()[next(len(edgeInts()))])
		}
		m := lensOf(lens...)
		if n, want := Bytes(m), sumByWords(m); n != want {
			t.Errorf("Bytes of %v: %d, not %d", few(lens), n, want)
		}
	}
}

// printsOf returns a manifest with entries of these fingerprints.
func printsOf(l ...api.Fp) api.Manifest {
	m := listOf(1, len(l))
	for i, f := range l {
		m.Entries[i].Fp = f
	}
	return m
}

// P15.3: hooks, step by step.
func TestHooksKnown(t *testing.T) {
	a, b, c := api.Fp{1, 2}, api.Fp{0, 32}, api.Fp{0, 0, 0, 0, 128}
	m := printsOf(a, b, c, b, api.Fp{}, a, c)
	for bits, want := range map[int][]api.Fp{
		math.MinInt: {{}, c, b, a}, -1: {{}, c, b, a}, 0: {{}, c, b, a}, 1: {{}, c, b, a}, 7: {{}, c, b, a}, 8: {{}, c, b}, 10: {{}, c, b}, 11: {{}, c}, 31: {{}, c}, 32: {{}, c}, 33: {{}}, 256: {{}}, 257: {{}}, math.MaxInt: {{}},
	} {
		if l := Hooks(m, bits); !slices.Equal(l, want) {
			t.Errorf("Hooks for %d bits: %x, not %x", bits, l, want)
		}
		expectHooks(t, "known", m, bits)
	}
	for _, bits := range edgeBits() {
		for _, none := range []api.Manifest{{}, {ID: 1}, {ID: 1, Entries: []api.Entry{}}} {
			if l := Hooks(none, bits); len(l) != 0 {
				t.Errorf("Hooks of no entry for %d bits: %x", bits, l)
			}
		}
	}
}

// P15.3: fingerprints that begin with each number of zero bits, rising, falling and mixed, each once and several times.
func TestHooksEdges(t *testing.T) {
	var l []api.Fp
	for zeros := range 256 {
		var f api.Fp
		f[zeros/8] = 128 >> (zeros % 8)
		l = append(l, f)
	}
	l = append(l, api.Fp{})
	falling := slices.Clone(l)
	slices.Reverse(falling)
	mixed := append(slices.Clone(falling[100:]), l[30:]...)
	for _, m := range []api.Manifest{printsOf(l...), printsOf(falling...), printsOf(mixed...), printsOf(append(l, l...)...), printsOf(slices.Repeat(l[40:41], 300)...)} {
		for bits := -2; bits < 260; bits++ {
			expectHooks(t, "zeros", m, bits)
		}
	}
}

// P15.3: the hooks do not depend on what else the entries have.
func TestHooksOthers(t *testing.T) {
	m := api.Manifest{Entries: []api.Entry{{Fp: api.Fp{0, 7}, Len: -5, Box: 0, Slot: -1}, {Fp: api.Fp{0, 7}, Len: math.MaxInt, Box: mostID + 1, Slot: 256}, {Fp: api.Fp{9}, Len: 1, Box: 1}}}
	if l := Hooks(m, 8); len(l) != 1 || l[0] != (api.Fp{0, 7}) {
		t.Errorf("Hooks: %x", l)
	}
	expectAny(t, "others", m)
}

// P15.3, P15.5: any manifests, valid and not.
func TestAny(t *testing.T) {
	next := anyNumbers(3)
	for range 200 {
		m := anyManifest(next)
		expectErr(t, told(m), Check(m), api.OK)
		expectPut(t, "any", m)
		expectAny(t, "any", m)
		x := &m.Entries[next(len(m.Entries))]
		switch next(4) {
		case 0:
			x.Len = edgeInts()[next(len(edgeInts()))]
		case 1:
			x.Slot = edgeInts()[next(len(edgeInts()))]
		case 2:
			x.Box = edgeIDs()[next(len(edgeIDs()))]
		case 3:
			m.ID = edgeIDs()[next(len(edgeIDs()))]
		}
		expectPut(t, "any, changed", m)
		expectAny(t, "any, changed", m)
	}
}
