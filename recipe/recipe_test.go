package recipe

import (
	"fmt"
	"math"
	"slices"
	"strings"
	"testing"

	"sheaf/api"
)

// expectValid holds Check, Put and Weight of a recipe, which is valid or not, and of ones that have other manifests.
func expectValid(t *testing.T, what string, r api.Recipe, valid bool) {
	t.Helper()
	what += ": " + told(r)
	want := api.ErrArg
	if valid {
		want = api.OK
	}
	expectErr(t, what, Check(r), want)
	if s, e := Put(r); e != want || (s == "") == valid {
		t.Errorf("%s: Put %q, %d", what, cropped(s), e)
	}
	if z := Weight(r); valid && (real(z) != float64(r.Re) || imag(z) != float64(r.Im)) || !valid && z != 0 {
		t.Errorf("%s: Weight %v", what, z)
	}
	for _, n := range []int{0, 1, 5, 1024, 1025} {
		r.Mans = mans(n)
		expectPut(t, what, r)
	}
}

// P16.1, P16.2: names of lengths at the edges, and of any bytes.
func TestCheckNames(t *testing.T) {
	for _, name := range edgeNames() {
		expectValid(t, "a name", api.Recipe{Name: name, Size: 4, Re: 5, Im: -6, Mans: []uint32{7}}, len(name) >= 1 && len(name) <= 48)
	}
	for n := range 52 {
		expectValid(t, "a length", api.Recipe{Name: strings.Repeat("x", n), Re: 1}, n >= 1 && n <= 48)
	}
	for c := range 256 {
		by := string([]byte{byte(c)})
		expectValid(t, "a byte", api.Recipe{Name: by, Im: 2}, true)
		expectValid(t, "a byte amid others", api.Recipe{Name: "a" + by + "b", Im: -2}, true)
	}
}

// P16.1, P16.2: a Size at the edges.
func TestCheckSizes(t *testing.T) {
	for _, n := range edgeInts() {
		expectValid(t, "a Size", api.Recipe{Name: "a", Size: n, Re: -3, Im: 1}, n >= 0 && n <= 1<<20)
	}
	for n := 0; n <= mostSize; n += 7919 {
		expectPut(t, "a Size", api.Recipe{Name: "a", Size: n})
	}
}

// P16.1, P16.2: a Re and an Im at the edges.
func TestCheckParts(t *testing.T) {
	for _, n := range edgeInts() {
		valid := n >= -1<<31 && n <= 1<<31-1
		expectValid(t, "a Re", api.Recipe{Name: "a", Size: 1, Re: n, Im: 5}, valid)
		expectValid(t, "an Im", api.Recipe{Name: "a", Size: 1, Re: 5, Im: n}, valid)
		expectValid(t, "both", api.Recipe{Name: "a", Size: 1, Re: n, Im: n}, valid)
		for _, k := range edgeInts() {
			expectPut(t, "both", api.Recipe{Name: "a", Size: 1, Re: n, Im: k})
		}
	}
}

// P16.1, P16.2: numbers of manifests at the edges, and many that there may be.
func TestCheckNumbers(t *testing.T) {
	for n := range 1100 {
		if n < 70 || n > 1015 || n%31 == 0 {
			expectPut(t, "a number", listOf(n))
		}
	}
	for _, n := range edgeNumbers() {
		r := listOf(0)
		r.Mans = mans(n)
		want := api.ErrArg
		if n <= 1024 {
			want = api.OK
		}
		expectErr(t, told(r), Check(r), want)
		expectPut(t, "a number", r)
		r.Mans = slices.Repeat([]uint32{mostID}, n)
		expectErr(t, told(r), Check(r), want)
		expectPut(t, "all the same", r)
	}
	none := listOf(0)
	none.Mans = []uint32{}
	if s, e := Put(none); s != bytesOf(listOf(0)) || e != api.OK || !Same(none, listOf(0)) || !Same(listOf(0), none) {
		t.Errorf("an empty list is not as none: %q, %d", s, e)
	}
}

// P16.1, P16.2: a manifest at the edges, alone, first, last and amid others.
func TestCheckIDs(t *testing.T) {
	for _, id := range edgeIDs() {
		want := api.OK
		if id == 0 || id == 1<<32-1 {
			want = api.ErrArg
		}
		for _, others := range []int{0, 1, 2, 4, 1023} {
			for at := range others + 1 {
				if at > 4 && at < others-1 && at%127 != 0 {
					continue
				}
				r := listOf(others)
				r.Mans = slices.Insert(r.Mans, at, id)
				expectErr(t, fmt.Sprintf("%d at %d of %d", id, at, others+1), Check(r), want)
				expectPut(t, fmt.Sprintf("%d at %d", id, at), r)
			}
		}
		for _, n := range []int{1, 2, 1024, 1025} {
			r := listOf(0)
			r.Mans = slices.Repeat([]uint32{id}, n)
			expectPut(t, "the same ones", r)
		}
	}
}

// P16.1, P16.2: recipes of which several fields are out of their bounds.
func TestCheckWrong(t *testing.T) {
	long := strings.Repeat("l", 49)
	for _, r := range []api.Recipe{
		{}, {Mans: []uint32{0}}, {Name: long, Size: -1}, {Name: "a", Size: math.MinInt, Re: math.MinInt, Im: math.MinInt, Mans: []uint32{0}},
		{Name: long, Size: math.MaxInt, Re: math.MaxInt, Im: math.MaxInt, Mans: make([]uint32, 1025)}, {Size: 1, Re: 1, Im: 1, Mans: []uint32{1}},
		{Name: "a", Mans: []uint32{0, mostID + 1}}, {Name: "a", Re: 1 << 31, Im: 1 << 31}, {Name: "a", Size: 1<<20 + 1, Re: -1<<31 - 1}, {Name: long, Mans: mans(1025)},
	} {
		expectErr(t, told(r), Check(r), api.ErrArg)
		if z := Weight(r); z != 0 {
			t.Errorf("%s: Weight %v", told(r), z)
		}
		if s, e := Put(r); s != "" || e != api.ErrArg {
			t.Errorf("%s: Put %q, %d", told(r), s, e)
		}
		expectPut(t, "several fields", r)
		if r := expectJoin(t, "several fields", "a", r); !nothing(r) {
			t.Errorf("a Join by the words: %s", told(r))
		}
		expectFits(t, "several fields", r, "", false)
	}
}

// P16.1: what a recipe weighs need not be what bytes of its Size weigh.
func TestWeight(t *testing.T) {
	for _, n := range []int{0, 1, 1 << 20} {
		for _, re := range []int{-1 << 31, -255, -1, 0, 1, 1<<31 - 1} {
			for _, im := range []int{-1 << 31, -255, -1, 0, 1, 1<<31 - 1} {
				r := api.Recipe{Name: "a", Size: n, Re: re, Im: im}
				if z := Weight(r); z != complex(float64(re), float64(im)) {
					t.Errorf("%s: Weight %v", told(r), z)
				}
			}
		}
	}
	// A 0 is not -0.
	z := Weight(api.Recipe{Name: "a"})
	if z != 0 || math.Signbit(real(z)) || math.Signbit(imag(z)) {
		t.Errorf("Weight %v of nothing", z)
	}
}

// P16.1: recipes that differ in one thing alone; they need not be valid.
func TestSame(t *testing.T) {
	for _, r := range []api.Recipe{{}, {Name: "a"}, {Name: "ab", Size: 3, Re: 4, Im: 5, Mans: []uint32{6, 7, 8}}, listOf(1024), {Size: -1, Re: math.MinInt, Im: math.MaxInt, Mans: []uint32{0, mostID + 1, 0}}} {
		expectSame := func(what string, other api.Recipe, want bool) {
			t.Helper()
			keptMans(t, what, r, func(r api.Recipe) {
				keptMans(t, what, other, func(other api.Recipe) {
					if Same(r, other) != want || Same(other, r) != want {
						t.Errorf("%s: Same %v of %s and %s", what, !want, told(r), told(other))
					}
				})
			})
		}
		expectSame("itself", r, true)
		for _, name := range []string{r.Name + "a", "b" + r.Name, r.Name + "\x00", strings.ToUpper(r.Name) + "."} {
			other := r
			other.Name = name
			expectSame("another Name", other, false)
		}
		for _, by := range []int{-1, 1, 2, 256, 1 << 31, 1 << 32, math.MinInt} {
			for i := range 3 {
				other := r
				*[]*int{&other.Size, &other.Re, &other.Im}[i] += by
				expectSame(fmt.Sprintf("field %d changed by %d", i, by), other, false)
			}
		}
		for at := range r.Mans {
			if at < 3 || at > len(r.Mans)-3 || at%100 == 0 {
				other := r
				other.Mans = slices.Clone(r.Mans)
				other.Mans[at]++
				expectSame("another manifest", other, false)
				other.Mans = slices.Delete(slices.Clone(r.Mans), at, at+1)
				expectSame("one fewer", other, false)
			}
		}
		other := r
		other.Mans = append(slices.Clone(r.Mans), 5)
		expectSame("one more, last", other, false)
		other.Mans = append([]uint32{5}, r.Mans...)
		expectSame("one more, first", other, false)
		other.Mans = nil
		expectSame("none", other, len(r.Mans) == 0)
		other.Mans = []uint32{}
		expectSame("an empty list", other, len(r.Mans) == 0)
	}
}

// P16.1: a Re for an Im, and the same manifests in another order.
func TestSameOrder(t *testing.T) {
	r := api.Recipe{Name: "a", Size: 1, Re: 2, Im: 3, Mans: []uint32{4, 5, 6}}
	for what, other := range map[string]api.Recipe{
		"parts":      {Name: "a", Size: 1, Re: 3, Im: 2, Mans: []uint32{4, 5, 6}},
		"Size, Re":   {Name: "a", Size: 2, Re: 1, Im: 3, Mans: []uint32{4, 5, 6}},
		"first two":  {Name: "a", Size: 1, Re: 2, Im: 3, Mans: []uint32{5, 4, 6}},
		"last two":   {Name: "a", Size: 1, Re: 2, Im: 3, Mans: []uint32{4, 6, 5}},
		"backwards":  {Name: "a", Size: 1, Re: 2, Im: 3, Mans: []uint32{6, 5, 4}},
		"one on":     {Name: "a", Size: 1, Re: 2, Im: 3, Mans: []uint32{5, 6, 4}},
		"once more":  {Name: "a", Size: 1, Re: 2, Im: 3, Mans: []uint32{4, 5, 6, 6}},
		"one twice":  {Name: "a", Size: 1, Re: 2, Im: 3, Mans: []uint32{4, 5, 5}},
		"without it": {Name: "a", Size: 1, Re: 2, Im: 3, Mans: []uint32{4, 6}},
	} {
		if Same(r, other) || Same(other, r) {
			t.Errorf("%s: %s is the same", what, told(other))
		}
	}
	if other := (api.Recipe{Name: "a", Size: 1, Re: 2, Im: 3, Mans: []uint32{4, 5, 6}}); !Same(r, other) || !Same(other, r) {
		t.Errorf("%s is not the same", told(other))
	}
}

// P16.2: Size at the edges, and the document's example.
func TestSize(t *testing.T) {
	if n := Size("a", 1); n != 4+12+5+2+4+4 {
		t.Errorf("Size of a and 1: %d", n)
	}
	many := append(edgeInts(), edgeNumbers()...)
	for n := range 1030 {
		many = append(many, n)
	}
	for _, name := range edgeNames() {
		for _, n := range many {
			if got, want := Size(name, n), sizeByWords(name, n); got != want {
				t.Errorf("Size of %q and %d: %d, not %d", cropped(name), n, got, want)
			}
		}
	}
	for _, name := range []string{"", strings.Repeat("s", 49)} {
		for _, n := range []int{math.MinInt, -1, 0, 1, 1024, 1025, math.MaxInt} {
			if got := Size(name, n); got != 0 {
				t.Errorf("Size of %q and %d: %d", name, n, got)
			}
		}
	}
	for _, n := range []int{math.MinInt, -1, 1025, 1 << 62, 1<<62 + 1, 1 << 61, -1 << 62, math.MaxInt} {
		if got := Size("a", n); got != 0 {
			t.Errorf("Size of a and %d: %d", n, got)
		}
	}
	if n := Size(strings.Repeat("s", 48), 1024); n != 16+4+48+2+4096+4 {
		t.Errorf("Size of the greatest: %d", n)
	}
}
