package cut

import (
	"math"
	"slices"
	"strconv"
	"strings"
	"testing"

	"sheaf/api"
)

// greatestDiv and greatestMax are the greatest settings, as the document writes them.
const (
	greatestDiv = 1048576
	greatestMax = 4096
)

// divText was made for its hash, 2^20 - 1: its only place by a divisor of 2^20.
const divText = "\x0e\xe0\x0e"

// anyText returns n bytes that look like any; another seed gives other ones.
func anyText(n int, seed uint32) string {
	b := make([]byte, n)
	for i := range b {
		seed = seed*1664525 + 1013904223
		b[i] = byte(seed >> 24)
	}
	return string(b)
}

// conf returns settings whose other fields are of no use for anything.
func conf(least, most, main, backup int) api.Conf {
	return api.Conf{
		Min: least, Max: most, Main: main, Backup: backup,
		SegMin: -1, SegMax: -2, SegDiv: math.MinInt, Bits: 99, Champs: -3, PerHook: -4, Index: math.MaxInt, Bytes: -5,
	}
}

// told returns settings as they are told in a test.
func told(c api.Conf) string {
	return strconv.Itoa(c.Min) + " " + strconv.Itoa(c.Max) + " " + strconv.Itoa(c.Main) + " " + strconv.Itoa(c.Backup)
}

// confs returns settings that can cut: at all their bounds, below, at and above the hash's window, and ordinary ones.
func confs() []api.Conf {
	var l []api.Conf
	for _, c := range [][4]int{
		{1, 1, 1, 1}, {1, 1, greatestDiv, greatestDiv}, {1, 2, 2, 2}, {1, greatestMax, 1, 1},
		{1, greatestMax, greatestDiv, greatestDiv}, {1, greatestMax, 600, 37}, {1, greatestMax, greatestDiv, 256},
		{greatestMax, greatestMax, 1, 1}, {greatestMax, greatestMax, 7, 3}, {greatestMax - 1, greatestMax, 2, 2},
		{2, 4, 1, 1}, {2, 4, greatestDiv, 1}, {2, 4, greatestDiv, greatestDiv}, {2, 9, 5, 3}, {3, 3, 4, 2},
		{1, 40, 11, 5}, {5, 40, greatestDiv, 6}, {15, 15, 3, 2}, {15, 17, 3, 2}, {16, 16, 3, 2}, {16, 30, 9, 4},
		{17, 17, 3, 2}, {17, 18, 2, 3}, {17, 60, 23, 9}, {18, 80, 40, greatestDiv}, {30, 64, 17, 17},
		{64, 256, 100, 30}, {100, 2000, 540, 270}, {200, 1000, greatestDiv, 150}, {48, greatestMax, 1024, 512},
	} {
		l = append(l, conf(c[0], c[1], c[2], c[3]))
	}
	return l
}

// wrongConfs returns settings that cannot cut.
func wrongConfs() []api.Conf {
	var l []api.Conf
	for _, n := range []int{0, -1, -2, math.MinInt} {
		l = append(l, conf(n, 4, 3, 2), conf(n, n, 3, 2), conf(1, n, 3, 2), conf(1, 4, n, 2), conf(1, 4, 3, n), conf(1, 4, n, n))
	}
	for _, n := range []int{greatestDiv + 1, greatestDiv + 2, 1 << 32, 1<<32 + 1, math.MaxInt} {
		l = append(l, conf(1, 4, n, 2), conf(1, 4, 3, n), conf(1, 4, n, n), conf(1, n, 3, 2), conf(n, n, 3, 2))
	}
	return append(l, api.Conf{}, conf(5, 4, 3, 2), conf(2, 1, 3, 2), conf(4096, 4095, 3, 2),
		conf(1, 4097, 3, 2), conf(4097, 4097, 3, 2), conf(4097, 4096, 3, 2), conf(math.MaxInt, 1, 3, 2))
}

// lengths returns how long texts are for settings: around their bounds and those of the window, and, where no text gets long by that, of some chunks.
func lengths(c api.Conf) []int {
	l := []int{
		0, 1, 2, 15, 16, 17, 18, 100, c.Min - 1, c.Min, c.Min + 1, c.Max - 1, c.Max, c.Max + 1, c.Max + 40,
	}
	if c.Max <= 300 {
		l = append(l, c.Max+c.Min, 2*c.Max-1, 2*c.Max, 2*c.Max+1, 5*c.Max+3, 300)
	}
	return l
}

// texts returns texts for settings: of any bytes, of bytes 0, of bytes 255, of others alone, and of a few bytes again and again.
func texts(c api.Conf) []string {
	var l []string
	for i, n := range lengths(c) {
		l = append(l, anyText(n, uint32(i)), strings.Repeat("\x00", n), strings.Repeat("\xff", n), strings.Repeat("\xfe", n))
		l = append(l, anyText(n/2, uint32(i))+strings.Repeat("\x00", n-n/2), strings.Repeat("abc", n/3), strings.Repeat(divText, n/3))
	}
	return append(l, "ä", "\x80", "a\x80\xe4", anyText(3*c.Max, 77))
}

// hashByWords is the hash as the document's words say it, of the bytes used alone.
func hashByWords(s string) uint64 {
	var h uint64
	for i := max(0, len(s)-16); i < len(s); i++ {
		h = (h*257 + uint64(s[i]) + 1) % (1<<31 - 1)
	}
	return h
}

// isPlaceByWords tells whether the first n bytes of s end at a place by this divisor.
func isPlaceByWords(s string, n, div int) bool {
	return hashByWords(s[:n])%uint64(div) == uint64(div)-1
}

// mainByWords returns the first main place of s, or 0.
func mainByWords(s string, c api.Conf) int {
	for n := c.Min; n <= c.Max && n <= len(s); n++ {
		if isPlaceByWords(s, n, c.Main) {
			return n
		}
	}
	return 0
}

// backupByWords returns the last backup place of s, or 0.
func backupByWords(s string, c api.Conf) int {
	for n := min(c.Max, len(s)); n >= c.Min; n-- {
		if isPlaceByWords(s, n, c.Backup) {
			return n
		}
	}
	return 0
}

// cutByWords is the first chunk's length as the document's words say it.
func cutByWords(s string, c api.Conf) int {
	if n := mainByWords(s, c); n > 0 {
		return n
	}
	if len(s) < c.Max {
		return 0
	}
	if n := backupByWords(s, c); n > 0 {
		return n
	}
	return c.Max
}

// splitByWords returns the chunks of s.
func splitByWords(s string, c api.Conf) []string {
	var l []string
	for n := cutByWords(s, c); n > 0; n = cutByWords(s, c) {
		l = append(l, s[:n])
		s = s[n:]
	}
	if s != "" {
		l = append(l, s)
	}
	return l
}

// lens returns the length of each chunk.
func lens(chunks []string) []int {
	var l []int
	for _, s := range chunks {
		l = append(l, len(s))
	}
	return l
}

// The text that was made for its hash, and the hash of these tests itself.
func TestHashByWords(t *testing.T) {
	for s, want := range map[string]uint64{
		"": 0, "\x00": 1, "\x00\x01": 259, "0123456789abcdef": 2030527067, "x0123456789abcdef": 2030527067, divText: greatestDiv - 1,
	} {
		if h := hashByWords(s); h != want {
			t.Errorf("the hash of %q: %d, not %d", s, h, want)
		}
	}
}

// P6.1: settings that can cut, at their bounds; their other fields count nothing.
func TestMay(t *testing.T) {
	for _, c := range confs() {
		if !May(c) || !May(api.Conf{Min: c.Min, Max: c.Max, Main: c.Main, Backup: c.Backup}) {
			t.Errorf("May(%s): false", told(c))
		}
	}
}

// P6.1, P6.2, P6.3: settings that cannot cut.
func TestWrongConfs(t *testing.T) {
	for _, c := range wrongConfs() {
		if May(c) {
			t.Errorf("May(%s): true", told(c))
		}
		for _, s := range []string{"", "a", "abcdef", divText, anyText(10000, 1)} {
			if n := Cut(s, c); n != 0 {
				t.Errorf("Cut of %d bytes, %s: %d", len(s), told(c), n)
			}
			if l := All(s, c); len(l) != 0 {
				t.Errorf("All of %d bytes, %s: %v", len(s), told(c), l)
			}
			if l := Split(s, c); len(l) != 0 {
				t.Errorf("Split of %d bytes, %s: %q", len(s), told(c), l)
			}
		}
		if x, e := New(c); x != nil || e != api.ErrArg {
			t.Errorf("New(%s): %v %d", told(c), x, e)
		}
	}
}

// kindOf tells what the end of s is by the divisors of 7 and 5: a main place (m), a backup place (b), both (+), none (-).
func kindOf(s string) byte {
	h := hashByWords(s)
	switch main, backup := h%7 == 6, h%5 == 4; {
	case main && backup:
		return '+'
	case main:
		return 'm'
	case backup:
		return 'b'
	}
	return '-'
}

// textOf returns a text whose first bytes, one and more, end in these kinds.
func textOf(t *testing.T, kinds string) string {
	t.Helper()
	s := ""
	for i := range len(kinds) {
		b := 0
		for kindOf(s+string([]byte{byte(b)})) != kinds[i] {
			if b++; b > 255 {
				t.Fatalf("no byte behind %q has the kind %c", s, kinds[i])
			}
		}
		s += string([]byte{byte(b)})
	}
	return s
}

// placeCase is a text by the kinds of its places, with Min and Max, how long its first chunk is, and how many bytes decide that.
type placeCase struct {
	least, most  int
	kinds        string
	want, decide int
}

func placeCases() []placeCase {
	l := []placeCase{
		{2, 6, "-m----", 2, 2},        // a main place at Min
		{2, 6, "-----m", 6, 6},        // and at Max
		{2, 6, "---m--", 4, 4},        // between
		{2, 6, "-m-m-m", 2, 2},        // the first of several
		{2, 6, "m-----", 6, 6},        // below Min there is none
		{2, 6, "m--m--", 4, 4},        // likewise
		{2, 6, "------m", 6, 6},       // above Max there is none
		{2, 6, "-b----m", 2, 6},       // likewise
		{2, 6, "-b-m--", 4, 4},        // behind a backup place
		{2, 6, "-bbbbm", 6, 6},        // behind some, at Max
		{2, 6, "-m-b-b", 2, 2},        // ahead of backup places
		{2, 6, "-b----", 2, 6},        // a backup place at Min
		{2, 6, "-----b", 6, 6},        // and at Max
		{2, 6, "-b-b--", 4, 6},        // the last of several
		{2, 6, "-bbbb-", 5, 6},        // likewise
		{2, 6, "b-----", 6, 6},        // below Min there is none
		{2, 6, "b-b---", 3, 6},        // likewise
		{2, 6, "------b", 6, 6},       // above Max there is none
		{2, 6, "--b---b", 3, 6},       // likewise
		{2, 6, "------", 6, 6},        // no place that counts
		{2, 6, "--+---", 3, 3},        // a place of both kinds
		{2, 6, "-b-+--", 4, 4},        // behind a backup place
		{2, 6, "+-----", 6, 6},        // below Min
		{1, 6, "m-----", 1, 1},        // Min 1
		{1, 6, "b-----", 1, 6},        // likewise
		{1, 1, "-", 1, 1},             // Min equal to Max
		{1, 1, "m", 1, 1},             // likewise
		{4, 4, "mb-m", 4, 4},          // likewise
		{4, 4, "mbm-", 4, 4},          // likewise
		{4, 4, "mbmb", 4, 4},          // likewise
		{3, 4, "mbm-", 3, 3},          // Min right below Max
		{3, 4, "mbb-", 3, 4},          // likewise
		{3, 4, "mb-b", 4, 4},          // likewise
		{1, 9, "-bb------m", 3, 9},    // a long way behind the last backup place
		{1, 9, "-bb-----m", 9, 9},     // a long way to the main place
		{1, 9, "---------bm", 9, 9},   // nothing up to Max
		{2, 6, "------------", 6, 6},  // other bytes behind it
		{2, 6, "-m" + "-m-m-m", 2, 2}, // likewise
	}
	// The same around the window: 14 to 17 bytes ahead of what counts.
	for n := 14; n <= 17; n++ {
		ahead := strings.Repeat("-mb+", 5)[:n]
		for _, c := range l[:36] {
			l = append(l, placeCase{n + c.least, n + c.most, ahead + c.kinds, n + c.want, n + c.decide})
			plain := strings.Repeat("-", n)
			l = append(l, placeCase{c.least, n + c.most, c.kinds + plain, cutOfKinds(c.kinds+plain, c.least, n+c.most), 0})
		}
	}
	return l
}

// cutOfKinds is the first chunk's length by the kinds of the places.
func cutOfKinds(kinds string, least, most int) int {
	kinds = kinds[:min(len(kinds), most)]
	if i := strings.IndexAny(kinds[least-1:], "m+"); i >= 0 {
		return least + i
	}
	if len(kinds) < most {
		return 0
	}
	if i := strings.LastIndexAny(kinds, "b"); i >= least-1 {
		return i + 1
	}
	return most
}

// P6.1: main and backup places wherever they may be, and where they don't count.
func TestCutPlaces(t *testing.T) {
	for _, p := range placeCases() {
		c := conf(p.least, p.most, 7, 5)
		s := textOf(t, p.kinds)
		if n := Cut(s, c); n != p.want || n != cutOfKinds(p.kinds, p.least, p.most) {
			t.Errorf("Cut by the places %s, %s: %d, not %d", p.kinds, told(c), n, p.want)
		}
	}
}

// P6.1: of a text that is too short for it no chunk is certain; from then on nothing behind changes it.
func TestCutDecided(t *testing.T) {
	for _, p := range placeCases() {
		if p.decide == 0 {
			continue
		}
		c := conf(p.least, p.most, 7, 5)
		s := textOf(t, p.kinds)
		for k := range s {
			if n := Cut(s[:k], c); k < p.decide && n != 0 || k >= p.decide && n != p.want {
				t.Errorf("Cut of %d bytes of the places %s, %s: %d", k, p.kinds, told(c), n)
			}
		}
		for _, behind := range []string{"", "\x00", "\xff", "a", divText, s, anyText(p.most, 4), anyText(5000, 5)} {
			if n := Cut(s[:p.decide]+behind, c); n != p.want {
				t.Errorf("Cut by the places %s, %s, with %d bytes behind: %d, not %d", p.kinds, told(c), len(behind), n, p.want)
			}
		}
	}
}

// P6.1: divisors of 1 and of 2^20, and the least and the greatest chunks.
func TestCutKnown(t *testing.T) {
	zeros := strings.Repeat("\x00", 5000)
	for _, c := range []struct {
		s                        string
		least, most, main, other int
		want                     int
	}{
		{"", 1, 1, 1, 1, 0},
		{"", 1, greatestMax, 1, 1, 0},
		{"a", 1, 1, greatestDiv, greatestDiv, 1},
		{"a", 1, 2, 1, 1, 1},
		{"a", 1, 2, greatestDiv, 1, 0},
		{"ab", 1, 2, greatestDiv, 1, 2},
		{"a", 2, 4, 1, 1, 0},
		{"ab", 2, 4, 1, 1, 2},
		{"abc", 2, 4, 1, 1, 2},
		{"abc", 2, 4, greatestDiv, greatestDiv, 0},
		{"abcd", 2, 4, greatestDiv, greatestDiv, 4},
		{"abcde", 2, 4, greatestDiv, greatestDiv, 4},
		{divText, 1, 9, greatestDiv, 1, 3},
		{divText, 3, 9, greatestDiv, 1, 3},
		{divText, 4, 9, greatestDiv, 1, 0},
		{divText + "abcdef", 4, 9, greatestDiv, greatestDiv, 9},
		{divText + "abcdef", 1, 9, greatestDiv - 1, greatestDiv, 3},
		{divText + "abcde", 1, 9, greatestDiv - 1, greatestDiv, 0},
		{divText + "abcdef", 1, 9, greatestDiv - 1, 1, 9},
		// The hashes of 1 to 5 bytes 0 are 1, 258, 66307, 17040900, 84543712.
		{zeros, 1, 5, 259, 2, 2},
		{zeros, 1, 5, greatestDiv, 259, 2},
		{zeros, 3, 5, greatestDiv, 259, 5},
		{zeros, 1, 5, 66308, 259, 3},
		{zeros, 1, 3, 17040901 / 61, 259, 2},
		{zeros, greatestMax, greatestMax, 1, 1, greatestMax},
		{zeros[:greatestMax], greatestMax, greatestMax, greatestDiv, greatestDiv, greatestMax},
		{zeros[:greatestMax-1], greatestMax, greatestMax, 1, 1, 0},
		{zeros, 1, greatestMax, greatestDiv, greatestDiv, greatestMax},
		{zeros[:greatestMax-1], 1, greatestMax, greatestDiv, greatestDiv, 0},
		{zeros, greatestMax - 1, greatestMax, 1, 1, greatestMax - 1},
		{zeros, greatestMax - 1, greatestMax, greatestDiv, 1, greatestMax},
		// From 16 bytes 0 on the hash is 1091620737, which is odd.
		{zeros, 16, greatestMax, 2, 1, 16},
		{zeros, 17, greatestMax, 2, 1, 17},
		{zeros, 16, greatestMax, greatestDiv, 2, greatestMax},
		// The hashes of one byte 255 and of two are 256 and 66048.
		{"\xff\xff\xff", 1, 3, 257, 1, 1},
		{"\xff\xff\xff", 1, 3, 66049, 257, 2},
		{"\xff\xff\xff", 2, 3, greatestDiv, 257, 3},
	} {
		if n := Cut(c.s, conf(c.least, c.most, c.main, c.other)); n != c.want {
			t.Errorf("Cut of %d bytes, %s: %d, not %d", len(c.s), told(conf(c.least, c.most, c.main, c.other)), n, c.want)
		}
	}
}

// P6.1: Cut of many texts, by the document's words.
func TestCut(t *testing.T) {
	for _, c := range confs() {
		for _, s := range texts(c) {
			if n, want := Cut(s, c), cutByWords(s, c); n != want {
				t.Errorf("Cut of %d bytes, %s: %d, not %d", len(s), told(c), n, want)
			}
		}
	}
}

// P6.1: Cut of each beginning of a text.
func TestCutOfBeginnings(t *testing.T) {
	for _, c := range confs() {
		for _, s := range []string{anyText(150, 3), strings.Repeat("\x00", 100), strings.Repeat("\xff", 100), strings.Repeat(divText, 30)} {
			for k := range len(s) + 1 {
				if n, want := Cut(s[:k], c), cutByWords(s[:k], c); n != want {
					t.Errorf("Cut of %d bytes, %s: %d, not %d", k, told(c), n, want)
				}
			}
		}
	}
}

// P6.2: the chapter's examples, and other texts that are known.
func TestAllKnown(t *testing.T) {
	always, never := conf(2, 4, 1, 1), conf(2, 4, greatestDiv, greatestDiv)
	for _, k := range []struct {
		s    string
		c    api.Conf
		want string
	}{
		{"", always, ""},
		{"a", always, "a"},
		{"ab", always, "ab"},
		{"abc", always, "ab|c"},
		{"abcdefgh", always, "ab|cd|ef|gh"},
		{"abcdefghi", always, "ab|cd|ef|gh|i"},
		{"", never, ""},
		{"a", never, "a"},
		{"abc", never, "abc"},
		{"abcd", never, "abcd"},
		{"abcde", never, "abcd|e"},
		{"abcdefg", never, "abcd|efg"},
		{"abcdefgh", never, "abcd|efgh"},
		{"abcdefghi", never, "abcd|efgh|i"},
		{"abc", conf(1, 1, 9, 9), "a|b|c"},
		{"abc", conf(4, 4, 1, 1), "abc"},
		{divText + divText + "a" + divText, conf(1, 9, greatestDiv, 1), divText + "|" + divText + "|a" + divText},
		{"to be or not to be", conf(4, 16, 6, 3), "to be or |not to| be"},
		// The last chunk has backup places at 1 and 2, but not Max bytes.
		{"abcdef" + "gh", conf(1, 3, greatestDiv, 1), "abc|def|gh"},
	} {
		want := strings.Split(k.want, "|")
		if k.s == "" {
			want = nil
		}
		if l := Split(k.s, k.c); !slices.Equal(l, want) {
			t.Errorf("Split(%q, %s): %q, not %q", k.s, told(k.c), l, want)
		}
		if l := All(k.s, k.c); !slices.Equal(l, lens(want)) {
			t.Errorf("All(%q, %s): %v, not %v", k.s, told(k.c), l, lens(want))
		}
	}
}

// P6.2: chunks that end at main places, one behind the other: each is measured from its own start.
func TestAllOfPlaces(t *testing.T) {
	c := conf(2, 40, 7, 5)
	var want []string
	for _, kinds := range []string{"-m", "b+", strings.Repeat("-b", 19) + "-m", "m---m", strings.Repeat("b-", 8) + "m", "mm", strings.Repeat("-", 15) + "m"} {
		want = append(want, textOf(t, kinds))
	}
	if l := Split(strings.Join(want, ""), c); !slices.Equal(l, want) {
		t.Errorf("Split: %q, not %q", l, want)
	}
	last := textOf(t, strings.Repeat("b", 39))
	if l := Split(strings.Join(want, "")+last, c); !slices.Equal(l, append(want, last)) {
		t.Errorf("Split with a last chunk of 39 bytes: %q", l)
	}
}

// P6.2: All and Split of many texts, by the document's words.
func TestAll(t *testing.T) {
	for _, c := range confs() {
		for _, s := range texts(c) {
			want := splitByWords(s, c)
			if l := All(s, c); !slices.Equal(l, lens(want)) {
				t.Errorf("All of %d bytes, %s: %v, not %v", len(s), told(c), l, lens(want))
			}
			if l := Split(s, c); !slices.Equal(l, want) {
				t.Errorf("Split of %d bytes, %s: %v, not %v", len(s), told(c), lens(l), lens(want))
			}
		}
	}
}

// P6.2: a rest of 1 byte, and of Max - 1 bytes, is the last chunk, whatever backup places it has.
func TestLastChunk(t *testing.T) {
	for _, most := range []int{2, 4, 16, 17, 40, greatestMax} {
		for _, backup := range []int{1, greatestDiv} {
			c := conf(1, most, greatestDiv, backup)
			for _, rest := range []int{1, most - 1} {
				s := strings.Repeat("a", 3*most+rest)
				if l := All(s, c); !slices.Equal(l, []int{most, most, most, rest}) {
					t.Errorf("All of %d bytes, %s: %v", len(s), told(c), l)
				}
				if l := Split(s, c); !slices.Equal(lens(l), []int{most, most, most, rest}) {
					t.Errorf("Split of %d bytes, %s: %v", len(s), told(c), lens(l))
				}
			}
		}
	}
}

// P6.2: texts of 2^20 bytes.
func TestAllLong(t *testing.T) {
	s := anyText(api.MaxStream, 9)
	for _, c := range []api.Conf{
		conf(1, greatestMax, greatestDiv, greatestDiv), conf(1, greatestMax, 1024, 512), conf(16, 64, 30, 11),
		conf(greatestMax, greatestMax, 1, 1), conf(1, 1, 1, 1), conf(64, greatestMax, 1<<14, 1<<12),
	} {
		want := splitByWords(s, c)
		if l := All(s, c); !slices.Equal(l, lens(want)) {
			t.Errorf("All of %d bytes, %s, has %d chunks, not %d", len(s), told(c), len(l), len(want))
		}
		if l := Split(s, c); !slices.Equal(l, want) {
			t.Errorf("Split of %d bytes, %s, has %d chunks, not %d", len(s), told(c), len(l), len(want))
		}
	}
}

// P6.2: a text of 2^20 bytes whose every chunk has a backup place at 1 alone: nothing else is cut off, until fewer than Max bytes are left.
func TestAllShortChunks(t *testing.T) {
	c := conf(1, greatestMax, greatestDiv, 256)
	s := strings.Repeat("\xfe", api.MaxStream)
	l := All(s, c)
	if len(l) != len(s)-greatestMax+2 || l[len(l)-1] != greatestMax-1 || slices.Max(l[:len(l)-1]) != 1 {
		t.Errorf("All of %d bytes, %s, has %d chunks, the last of %d bytes", len(s), told(c), len(l), l[len(l)-1])
	}
}

// P6.5: how long the chunks are, and that they are the text.
func TestLengths(t *testing.T) {
	for _, c := range confs() {
		for _, s := range texts(c) {
			l := Split(s, c)
			if strings.Join(l, "") != s {
				t.Errorf("the chunks of %d bytes, %s, are not the text", len(s), told(c))
			}
			for i, chunk := range l {
				least := c.Min
				if i == len(l)-1 {
					least = 1
				}
				if len(chunk) < least || len(chunk) > c.Max {
					t.Errorf("chunk %d of %d of %d bytes, %s, has %d bytes", i, len(l), len(s), told(c), len(chunk))
				}
			}
		}
	}
}

// P6.6: from a chunk's end on a text is cut like one of its own; up to there like one that ends there.
func TestAfterCut(t *testing.T) {
	for _, c := range confs() {
		for i, s := range []string{anyText(900, 8), strings.Repeat("\x00", 400), strings.Repeat("\xfe", 5000), strings.Repeat(divText, 150), anyText(3*c.Max, 9)} {
			l := All(s, c)
			at := 0
			for k := 0; k < len(l) && k < 60; k++ {
				at += l[k]
				if behind := All(s[at:], c); !slices.Equal(behind, l[k+1:]) {
					t.Errorf("text %d, %s: behind %d bytes %v, not %v", i, told(c), at, behind, l[k+1:])
				}
				if k == len(l)-1 {
					continue
				}
				// The chunk itself may be decided by bytes behind it: they are there.
				other := s[:max(at, min(len(s), at-l[k]+c.Max))] + "others"
				if ahead := All(other, c); !slices.Equal(ahead[:k+1], l[:k+1]) {
					t.Errorf("text %d, %s: with others behind %d bytes %v, not %v", i, told(c), at, ahead[:k+1], l[:k+1])
				}
			}
		}
	}
}

// P6.6: the same text behind other chunks is cut at the same places.
func TestBehindOtherChunks(t *testing.T) {
	c := conf(2, 40, 7, 5)
	s := anyText(500, 6)
	want := Split(s, c)
	for _, kinds := range []string{"-m", "-------+", strings.Repeat("-b", 15) + "-m", strings.Repeat("b", 39) + "m"} {
		first := textOf(t, kinds)
		if l := Split(first+s, c); l[0] != first || !slices.Equal(l[1:], want) {
			t.Errorf("behind a chunk of %d bytes: %v, not %v", len(first), lens(l), lens(want))
		}
	}
}

// Rule 4: lists that were changed change no later ones.
func TestNewMemory(t *testing.T) {
	c := conf(2, 4, 1, 1)
	n, l := All("abcdef", c), Split("abcdef", c)
	for i := range n {
		n[i], l[i] = 7, "x"
	}
	if again := All("abcdef", c); !slices.Equal(again, []int{2, 2, 2}) {
		t.Errorf("All behind a change of its list: %v", again)
	}
	if again := Split("abcdef", c); !slices.Equal(again, []string{"ab", "cd", "ef"}) {
		t.Errorf("Split behind a change of its list: %q", again)
	}
}

// FuzzCut holds any text and settings against the document's words, whole and in pieces.
func FuzzCut(f *testing.F) {
	f.Add("", 1, 1, 1, 1, 0)
	f.Add(divText+divText, 1, 9, greatestDiv, 2, 1)
	f.Add(anyText(200, 1), 17, 40, 11, 5, 7)
	f.Add(strings.Repeat("\xfe", 300), 1, 64, greatestDiv, 256, 30)
	f.Fuzz(func(t *testing.T, s string, least, most, main, backup, piece int) {
		c := conf(least, most, main, backup)
		if !May(c) {
			if x, e := New(c); x != nil || e != api.ErrArg || Cut(s, c) != 0 || len(All(s, c)) != 0 || len(Split(s, c)) != 0 {
				t.Fatalf("settings that cannot cut: %s", told(c))
			}
			return
		}
		if n, want := Cut(s, c), cutByWords(s, c); n != want {
			t.Fatalf("Cut(%q, %s): %d, not %d", s, told(c), n, want)
		}
		want := splitByWords(s, c)
		if l := Split(s, c); !slices.Equal(l, want) || !slices.Equal(All(s, c), lens(want)) {
			t.Fatalf("Split(%q, %s): %q, not %q", s, told(c), l, want)
		}
		expectPieces(t, s, c, wholeByWords(s, c), equalPieces(s, piece))
	})
}
