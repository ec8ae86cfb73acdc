package seg

import (
	"math"
	"slices"
	"strconv"
	"strings"
	"testing"

	"sheaf/api"
)

// greatestDiv and greatestMax are the greatest settings, as the document writes them.
const (
	greatestDiv = 1048576
	greatestMax = 256
)

// conf returns settings whose other fields are of no use for anything.
func conf(least, most, div int) api.Conf {
	return api.Conf{
		SegMin: least, SegMax: most, SegDiv: div,
		Min: -1, Max: math.MaxInt, Backup: math.MinInt, Bits: 99, Champs: -3, PerHook: -4, Index: math.MaxInt, Slots: -5, Bytes: -6,
	}
}

// told returns settings as they are told in a test.
func told(c api.Conf) string {
	return strconv.Itoa(c.SegMin) + " " + strconv.Itoa(c.SegMax) + " " + strconv.Itoa(c.SegDiv)
}

// confs returns settings that can divide: at all their bounds, and ordinary ones.
func confs() []api.Conf {
	var l []api.Conf
	for _, c := range [][3]int{
		{1, 1, 1}, {1, 1, 7}, {1, 1, greatestDiv}, {1, 2, 2}, {1, 3, 1}, {1, 3, greatestDiv}, {2, 2, 3}, {2, 3, 5}, {2, 4, 5},
		{3, 3, 1}, {3, 3, greatestDiv}, {3, 4, 2}, {4, 9, 3}, {5, 40, 10}, {7, 8, greatestDiv - 1}, {16, 64, 16}, {32, 200, 65536},
		{1, greatestMax, 1}, {1, greatestMax, 2}, {1, greatestMax, greatestDiv}, {1, greatestMax, 600}, {greatestMax - 1, greatestMax, 2},
		{greatestMax, greatestMax, 1}, {greatestMax, greatestMax, 7}, {greatestMax, greatestMax, greatestDiv},
	} {
		l = append(l, conf(c[0], c[1], c[2]))
	}
	return l
}

// wrongConfs returns settings that cannot divide.
func wrongConfs() []api.Conf {
	var l []api.Conf
	for _, n := range []int{0, -1, -2, math.MinInt, math.MinInt + 1} {
		l = append(l, conf(n, 4, 3), conf(n, n, 3), conf(1, n, 3), conf(1, 4, n), conf(n, n, n))
	}
	for _, n := range []int{257, 258, 512, 1 << 32, 1<<32 + 1, math.MaxInt - 1, math.MaxInt} {
		l = append(l, conf(1, n, 3), conf(n, n, 3), conf(n, greatestMax, 3), conf(0, n, 3))
	}
	for _, n := range []int{greatestDiv + 1, greatestDiv + 2, 1 << 32, 1<<32 + 1, math.MaxInt - 1, math.MaxInt} {
		l = append(l, conf(1, 4, n), conf(greatestMax, greatestMax, n))
	}
	// Settings of chunks that can cut help nothing.
	return append(l, api.Conf{}, api.Conf{Min: 1, Max: 4, Main: 3, Backup: 2}, conf(2, 1, 3), conf(5, 4, 3),
		conf(greatestMax, greatestMax-1, 3), conf(math.MaxInt, 1, 3), conf(math.MaxInt, math.MinInt, 3))
}

// fpOf returns the fingerprint whose first four bytes are num; what stands behind them is at, and bytes that look like any.
func fpOf(num uint64, at int) api.Fp {
	f := api.Fp{byte(num >> 24), byte(num >> 16), byte(num >> 8), byte(num), byte(at >> 16), byte(at >> 8), byte(at)}
	seed := uint32(num) + uint32(at)
	for i := 7; i < len(f); i++ {
		seed = seed*1664525 + 1013904223
		f[i] = byte(seed >> 24)
	}
	return f
}

// fps returns fingerprints by letters, of which no two are equal: for an m a mark, for any other letter one that is none.
func fps(kinds string, div int) []api.Fp {
	var l []api.Fp
	d, most := uint64(div), uint64(math.MaxUint32)/uint64(div)
	for i := range len(kinds) {
		// The least, the greatest, and others between; then what remains is from 1 to div - 1.
		num := []uint64{0, most, 1, most / 2, most - most/3}[i%5] * d
		if kinds[i] != 'm' && d > 1 {
			num = min(num, (most-1)*d) + []uint64{1, d - 1, d / 2, 1 + uint64(i)%(d-1)}[i%4]
		}
		l = append(l, fpOf(num, i))
	}
	return l
}

// anyKinds returns n letters, of which one of every marks is an m; another seed gives other ones.
func anyKinds(n int, marks, seed uint32) string {
	b := make([]byte, n)
	for i := range b {
		seed = seed*1664525 + 1013904223
		b[i] = '-'
		if (seed>>8)%marks == 0 {
			b[i] = 'm'
		}
	}
	return string(b)
}

// lengths returns how long lists are for settings: around their bounds, and of some segments.
func lengths(c api.Conf) []int {
	return []int{
		0, 1, 2, c.SegMin - 1, c.SegMin, c.SegMin + 1, c.SegMax - 1, c.SegMax, c.SegMax + 1,
		c.SegMin + c.SegMax, 2*c.SegMax - 1, 2 * c.SegMax, 2*c.SegMax + 1, 3*c.SegMax + 2, 50,
	}
}

// lists returns lists for settings: of those lengths without a mark, of marks only, with one mark at each edge, and with marks at any places.
func lists(c api.Conf) [][]api.Fp {
	l := [][]api.Fp{nil, {}}
	for i, n := range lengths(c) {
		none := strings.Repeat("-", n)
		l = append(l, fps(strings.Repeat("m", n), c.SegDiv))
		if c.SegDiv == 1 {
			continue
		}
		l = append(l, fps(none, c.SegDiv))
		for _, marks := range []int{2, c.SegMin, c.SegMax} {
			l = append(l, fps(anyKinds(n, uint32(marks), uint32(i)), c.SegDiv))
		}
		for _, at := range []int{1, c.SegMin - 1, c.SegMin, c.SegMin + 1, c.SegMax - 1, c.SegMax, c.SegMax + 1, c.SegMin + c.SegMax, 2 * c.SegMax, n} {
			if 1 <= at && at <= n {
				l = append(l, fps(none[:at-1]+"m"+none[at:], c.SegDiv))
			}
		}
	}
	return l
}

// isMarkByWords goes by the first four bytes, the most significant one first.
func isMarkByWords(f api.Fp, c api.Conf) bool {
	num := 0
	for _, b := range f[:4] {
		num = num*256 + int(b)
	}
	return num%c.SegDiv == 0
}

// cutByWords returns how many fingerprints the first segment has as the document's words say it: at is how many are before each.
func cutByWords(l []api.Fp, c api.Conf) int {
	for at, f := range l {
		if isMarkByWords(f, c) && at >= c.SegMin-1 || at+1 == c.SegMax {
			return at + 1
		}
	}
	return 0
}

// allByWords returns how many fingerprints each segment has; the last may be incomplete, which is told too.
func allByWords(l []api.Fp, c api.Conf) (sizes []int, incomplete bool) {
	for n := cutByWords(l, c); n > 0; n = cutByWords(l, c) {
		sizes = append(sizes, n)
		l = l[n:]
	}
	if len(l) > 0 {
		return append(sizes, len(l)), true
	}
	return sizes, false
}

// The lists of these tests: marks where there is an m, and no two that are equal.
func TestFps(t *testing.T) {
	for _, c := range confs() {
		kinds := anyKinds(700, 2, 5)
		seen := map[api.Fp]bool{}
		for i, f := range fps(kinds, c.SegDiv) {
			if isMarkByWords(f, c) != (kinds[i] == 'm' || c.SegDiv == 1) || seen[f] {
				t.Errorf("%s: %d is %x", told(c), i, f)
			}
			seen[f] = true
		}
	}
}

// P8.1: settings that can divide, at their bounds; their other fields count nothing.
func TestMay(t *testing.T) {
	for _, c := range confs() {
		for _, other := range []int{0, 1, 256, 1 << 20, -1, math.MinInt, math.MaxInt} {
			all := api.Conf{
				SegMin: c.SegMin, SegMax: c.SegMax, SegDiv: c.SegDiv,
				Min: other, Max: other, Main: other, Backup: other, Bits: other, Champs: other, PerHook: other, Index: other, Slots: other, Bytes: other,
			}
			if !May(all) {
				t.Errorf("May(%s), other fields %d: false", told(c), other)
			}
		}
	}
}

// P8.1: the settings as the document's words say them, at and around all bounds.
func TestMayBounds(t *testing.T) {
	numbers := []int{math.MinInt, -1, 0, 1, 2, 255, 256, 257, greatestDiv - 1, greatestDiv, greatestDiv + 1, math.MaxInt}
	for _, least := range numbers {
		for _, most := range numbers {
			for _, div := range numbers {
				c := conf(least, most, div)
				want := 1 <= least && least <= most && most <= 256 && div >= 1 && div <= 1048576
				x, e := New(c)
				if May(c) != want || (x != nil) != want || (e == api.OK) != want {
					t.Errorf("May(%s): %v; New: %v %d", told(c), May(c), x, e)
				}
			}
		}
	}
}

// P8.1, P8.2, P8.3: settings that cannot divide.
func TestWrongConfs(t *testing.T) {
	for _, c := range wrongConfs() {
		if May(c) {
			t.Errorf("May(%s): true", told(c))
		}
		for _, l := range [][]api.Fp{nil, {}, {{}}, make([]api.Fp, 5), make([]api.Fp, 1000), fps("-m--mm-m--", 7)} {
			if n := Cut(l, c); n != 0 {
				t.Errorf("Cut of %d, %s: %d", len(l), told(c), n)
			}
			if sizes := All(l, c); len(sizes) != 0 {
				t.Errorf("All of %d, %s: %v", len(l), told(c), sizes)
			}
			if segments := Split(l, c); len(segments) != 0 {
				t.Errorf("Split of %d, %s: %x", len(l), told(c), segments)
			}
		}
		if x, e := New(c); x != nil || e != api.ErrArg {
			t.Errorf("New(%s): %v %d", told(c), x, e)
		}
	}
}

// known is a list by letters, the first segment's number of fingerprints, and that of all segments.
type known struct {
	least, most int
	kinds       string
	first       int
	all         []int
}

func knownLists() []known {
	return []known{
		{2, 4, "", 0, nil}, {2, 4, "-", 0, []int{1}}, {2, 4, "m", 0, []int{1}},
		{2, 4, "-m", 2, []int{2}},            // a mark at SegMin
		{2, 4, "mm", 2, []int{2}},            // likewise
		{2, 4, "m-", 0, []int{2}},            // right before it
		{2, 4, "m-m", 3, []int{3}},           // right before it, and behind it
		{2, 4, "--m", 3, []int{3}},           // between
		{2, 4, "---", 0, []int{3}},           // no mark, SegMax - 1
		{2, 4, "m--", 0, []int{3}},           // likewise
		{2, 4, "---m", 4, []int{4}},          // a mark at SegMax
		{2, 4, "----", 4, []int{4}},          // no mark, SegMax
		{2, 4, "m---", 4, []int{4}},          // likewise
		{2, 4, "-----", 4, []int{4, 1}},      // no mark, SegMax + 1
		{2, 4, "----m", 4, []int{4, 1}},      // a mark behind SegMax
		{2, 4, "---mm", 4, []int{4, 1}},      // likewise
		{2, 4, "----mm", 4, []int{4, 2}},     // a first one of the second segment, and its second
		{2, 4, "----m-", 4, []int{4, 2}},     // its first alone
		{2, 4, "-mm", 2, []int{2, 1}},        // the list goes on by one
		{2, 4, "-m-", 2, []int{2, 1}},        // likewise
		{2, 4, "-mmm", 2, []int{2, 2}},       // each ends at SegMin
		{2, 4, "-mm-m", 2, []int{2, 3}},      // what was before an end counts nothing
		{2, 4, "-m----", 2, []int{2, 4}},     // SegMax is counted from the end
		{2, 4, "-m-----", 2, []int{2, 4, 1}}, // and goes on by one
		{2, 4, "----------", 4, []int{4, 4, 2}}, {2, 4, "mmmmmmm", 2, []int{2, 2, 2, 1}}, {2, 4, "--m--m--m", 3, []int{3, 3, 3}},
		{1, 3, "m", 1, []int{1}}, {1, 3, "mmm", 1, []int{1, 1, 1}}, {1, 3, "-", 0, []int{1}}, {1, 3, "-m-", 2, []int{2, 1}},
		{1, 3, "m--m", 1, []int{1, 3}}, {1, 3, "----", 3, []int{3, 1}}, {1, 1, "-m-", 1, []int{1, 1, 1}},
		{3, 3, "mmmmmm", 3, []int{3, 3}}, {3, 3, "-------", 3, []int{3, 3, 1}}, {3, 3, "mm", 0, []int{2}}, {3, 3, "m-m-", 3, []int{3, 1}},
		{3, 4, "mm--", 4, []int{4}}, {3, 4, "mmm-", 3, []int{3, 1}}, {3, 4, "mm-m", 4, []int{4}},
		{5, 6, "mmmm-m", 6, []int{6}}, {5, 6, "mmmm-", 0, []int{5}}, {5, 6, "----m", 5, []int{5}},
	}
}

// P8.1, P8.2: lists by letters, with several divisors.
func TestKnown(t *testing.T) {
	for _, k := range knownLists() {
		for _, div := range []int{2, 3, 10, 256, 65536, 1000003, greatestDiv} {
			c := conf(k.least, k.most, div)
			l := fps(k.kinds, div)
			if n := Cut(l, c); n != k.first {
				t.Errorf("Cut(%s), %s: %d, not %d", k.kinds, told(c), n, k.first)
			}
			if sizes := All(l, c); !slices.Equal(sizes, k.all) {
				t.Errorf("All(%s), %s: %v, not %v", k.kinds, told(c), sizes, k.all)
			}
			expectSegments(t, l, c, k.all)
		}
	}
}

// expectSegments holds the segments of a list against their numbers of fingerprints.
func expectSegments(t *testing.T, l []api.Fp, c api.Conf, sizes []int) {
	t.Helper()
	segments := Split(l, c)
	if len(segments) != len(sizes) {
		t.Fatalf("Split of %d, %s: %d segments, not %d", len(l), told(c), len(segments), len(sizes))
	}
	for i, n := range sizes {
		if !slices.Equal(segments[i], l[:n]) {
			t.Errorf("Split of %d, %s: segment %d has %d: %x", len(l), told(c), i, len(segments[i]), segments[i])
		}
		l = l[n:]
	}
}

// P8.1: which are marks: the first four bytes, as a number without a sign, modulo SegDiv.
func TestMarks(t *testing.T) {
	for _, m := range []struct {
		f    api.Fp
		div  int
		want bool
	}{
		{api.Fp{}, 1, true}, {api.Fp{255, 255, 255, 255}, 1, true}, {api.Fp{}, greatestDiv, true},
		{api.Fp{0, 0, 0, 1}, 2, false}, {api.Fp{0, 0, 0, 2}, 2, true}, {api.Fp{0, 0, 0, 0, 1}, 2, true}, {api.Fp{1}, 2, true},
		{api.Fp{0, 16}, greatestDiv, true}, {api.Fp{0, 32}, greatestDiv, true}, {api.Fp{0, 8}, greatestDiv, false}, {api.Fp{0, 15, 255, 255}, greatestDiv, false},
		{api.Fp{255, 240}, greatestDiv, true}, {api.Fp{255, 255, 255, 255}, greatestDiv, false}, {api.Fp{255, 255, 255, 255}, 5, true},
		{api.Fp{128, 0, 0, 0}, 3, false}, {api.Fp{128, 0, 0, 1}, 3, true}, {api.Fp{255, 255, 255, 255}, 65535, true}, {api.Fp{0, 1}, 65535, false},
		{api.Fp{0, 0, 1}, 256, true}, {api.Fp{0, 0, 1, 1}, 256, false}, {api.Fp{0, 0, 1, 1}, 257, true}, {api.Fp{0, 0, 0, 5, 255, 255}, 5, true},
	} {
		c := conf(1, 2, m.div)
		if got := Cut([]api.Fp{m.f, {}}, c) == 1; got != m.want {
			t.Errorf("%x is a mark for %d: %v", m.f, m.div, got)
		}
	}
}

// P8.1, P8.2: all lists up to ten fingerprints, with all small settings.
func TestAllSmall(t *testing.T) {
	for most := 1; most <= 5; most++ {
		for least := 1; least <= most; least++ {
			c := conf(least, most, 6)
			for n := range 11 {
				for marks := range 1 << n {
					kinds := []byte(strings.Repeat("-", n))
					for i := range kinds {
						if marks>>i&1 == 1 {
							kinds[i] = 'm'
						}
					}
					expectByWords(t, fps(string(kinds), 6), c)
				}
			}
		}
	}
}

// expectByWords holds all calls for a list against the document's words.
func expectByWords(t *testing.T, l []api.Fp, c api.Conf) {
	t.Helper()
	if n := Cut(l, c); n != cutByWords(l, c) {
		t.Errorf("Cut of %d, %s: %d, not %d", len(l), told(c), n, cutByWords(l, c))
	}
	sizes, _ := allByWords(l, c)
	if got := All(l, c); !slices.Equal(got, sizes) {
		t.Errorf("All of %d, %s: %v, not %v", len(l), told(c), got, sizes)
	}
	expectSegments(t, l, c, sizes)
}

// P8.1, P8.2: lists of all kinds with all settings.
func TestByWords(t *testing.T) {
	for _, c := range confs() {
		for _, l := range lists(c) {
			expectByWords(t, l, c)
		}
	}
}

// The chapter's examples.
func TestExamples(t *testing.T) {
	for n := range 20 {
		for _, kinds := range []string{strings.Repeat("-", n), strings.Repeat("m", n), anyKinds(n, 2, 9)} {
			for _, size := range All(fps(kinds, 1), conf(1, 3, 1)) {
				if size != 1 {
					t.Errorf("a segment of %d", size)
				}
			}
			for _, div := range []int{1, 2, greatestDiv} {
				sizes := All(fps(kinds, div), conf(3, 3, div))
				for i, size := range sizes {
					if size != min(3, n-3*i) {
						t.Errorf("segment %d of %d has %d", i, n, size)
					}
				}
				if len(sizes) != (n+2)/3 {
					t.Errorf("%d segments of %d", len(sizes), n)
				}
			}
		}
	}
}

// P8.5: the lengths of the segments, which together are the list.
func TestLengths(t *testing.T) {
	for _, c := range confs() {
		for _, l := range lists(c) {
			var whole []api.Fp
			segments := Split(l, c)
			for i, segment := range segments {
				n := len(segment)
				if i < len(segments)-1 && n < c.SegMin || n < 1 || n > c.SegMax {
					t.Errorf("segment %d of %d, %s: %d", i, len(segments), told(c), n)
				}
				whole = append(whole, segment...)
			}
			if !slices.Equal(whole, l) {
				t.Errorf("%d, %s: the segments together have %d", len(l), told(c), len(whole))
			}
		}
	}
}

// P8.2, rule 4: no call changes a list, nor what stands behind it; a list that was changed after a call changes no segment.
func TestListUnchanged(t *testing.T) {
	behind := api.Fp{1, 2, 3}
	for _, c := range confs() {
		for _, l := range lists(c) {
			in := append(slices.Clone(l), behind, behind)[:len(l)]
			sizes, _ := allByWords(l, c)
			segments := Split(in, c)
			All(in, c)
			Cut(in, c)
			if !slices.Equal(in[:len(l)+2], append(slices.Clone(l), behind, behind)) {
				t.Fatalf("a list of %d was changed, %s", len(l), told(c))
			}
			clear(in[:len(l)+2])
			at := 0
			for i, n := range sizes {
				if !slices.Equal(segments[i], l[at:at+n]) {
					t.Fatalf("segment %d of %d was changed with the list, %s", i, len(l), told(c))
				}
				at += n
			}
		}
	}
}

// P8.2: segments into which a caller writes, and to which it appends, while the list and the other segments stand unchanged.
func TestSegmentsOfTheirOwn(t *testing.T) {
	other := api.Fp{9, 9, 9}
	for _, c := range confs() {
		for _, l := range lists(c) {
			in := slices.Clone(l)
			sizes, _ := allByWords(l, c)
			for changed := range min(len(sizes), 12) {
				segments := Split(in, c)
				longer := append(segments[changed], other, other)
				for i := range segments[changed] {
					segments[changed][i] = other
				}
				clear(longer[:cap(longer)])
				at := 0
				for i, n := range sizes {
					if i != changed && !slices.Equal(segments[i], l[at:at+n]) {
						t.Fatalf("segment %d of %d was changed with segment %d, %s", i, len(l), changed, told(c))
					}
					at += n
				}
				if !slices.Equal(in, l) {
					t.Fatalf("a list of %d was changed with segment %d, %s", len(l), changed, told(c))
				}
			}
		}
	}
}

// Rule 4: a list of numbers that was changed changes no other one.
func TestAllNewMemory(t *testing.T) {
	c := conf(2, 4, 5)
	l := fps("-m----m", 5)
	sizes := All(l, c)
	clear(sizes[:cap(sizes)])
	segments := Split(l, c)
	clear(segments[:cap(segments)])
	if again := All(l, c); !slices.Equal(again, []int{2, 4, 1}) {
		t.Errorf("All: %v", again)
	}
	expectSegments(t, l, c, []int{2, 4, 1})
}

// P8.1, P8.2: long lists.
func TestLong(t *testing.T) {
	l := fps(anyKinds(100000, 40, 3), 40)
	for _, c := range []api.Conf{conf(1, 1, 40), conf(1, greatestMax, 40), conf(greatestMax, greatestMax, 40), conf(30, 200, 40), conf(1, 2, 1)} {
		expectByWords(t, l, c)
	}
}

func FuzzSeg(f *testing.F) {
	f.Add("", 1, 1, 1)
	f.Add("--m--mm", 2, 4, 5)
	f.Add("mmm", 0, 257, greatestDiv+1)
	f.Fuzz(func(t *testing.T, kinds string, least, most, div int) {
		c := conf(least, most, div)
		if !May(c) {
			l := make([]api.Fp, len(kinds))
			if x, e := New(c); x != nil || e != api.ErrArg || Cut(l, c) != 0 || len(All(l, c)) != 0 || len(Split(l, c)) != 0 {
				t.Fatalf("%s: %v %d", told(c), x, e)
			}
			return
		}
		l := fps(kinds, div)
		expectByWords(t, l, c)
		expectPuts(t, parter(t, c), l, c)
	})
}
