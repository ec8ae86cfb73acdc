package recipe

import (
	"encoding/binary"
	"fmt"
	"hash/crc32"
	"math"
	"slices"
	"strings"
	"testing"

	"sheaf/api"
)

// The limits, as the document writes them.
const (
	mostID   = 1<<32 - 2
	mostName = 48
	mostSize = 1 << 20
	mostMans = 1024
)

func validPartByWords(n int) bool { return n >= -(1<<31) && n <= 1<<31-1 }

func validByWords(r api.Recipe) bool {
	for _, id := range r.Mans {
		if id < 1 || id > mostID {
			return false
		}
	}
	return len(r.Name) >= 1 && len(r.Name) <= mostName && r.Size >= 0 && r.Size <= mostSize &&
		validPartByWords(r.Re) && validPartByWords(r.Im) && len(r.Mans) <= mostMans
}

func checkByWords(r api.Recipe) api.Errno {
	if validByWords(r) {
		return api.OK
	}
	return api.ErrArg
}

func weightByWords(r api.Recipe) complex128 {
	if !validByWords(r) {
		return 0
	}
	return complex(float64(r.Re), float64(r.Im))
}

// sizeByWords adds up the parts of a recipe.
func sizeByWords(name string, mans int) int {
	if len(name) < 1 || len(name) > mostName || mans < 0 || mans > mostMans {
		return 0
	}
	n := 4 + 4 + 4 + 4
	n += 4 + len(name)
	n += 2
	for range mans {
		n += 4
	}
	return n + 4
}

// numbered returns the bytes of a recipe, valid or not, with a length of its name and a number of manifests that need not
// be theirs, and a CRC that is right for it. Numbers that have not enough bytes come round.
func numbered(r api.Recipe, nameLen uint32, mans uint16) string {
	b := binary.LittleEndian.AppendUint32([]byte("RECP"), uint32(r.Size))
	b = binary.LittleEndian.AppendUint32(b, uint32(r.Re))
	b = binary.LittleEndian.AppendUint32(b, uint32(r.Im))
	b = binary.LittleEndian.AppendUint32(b, nameLen)
	b = append(b, r.Name...)
	b = binary.LittleEndian.AppendUint16(b, mans)
	for _, id := range r.Mans {
		b = binary.LittleEndian.AppendUint32(b, id)
	}
	return sealed(string(b))
}

// bytesOf returns the bytes of a recipe, also of one that is not valid.
func bytesOf(r api.Recipe) string { return numbered(r, uint32(len(r.Name)), uint16(len(r.Mans))) }

// sealed returns bytes with their CRC behind them.
func sealed(s string) string {
	return string(binary.LittleEndian.AppendUint32([]byte(s), crc32.ChecksumIEEE([]byte(s))))
}

// cutSealed returns the bytes of a recipe without their CRC.
func cutSealed(s string) string { return s[:len(s)-4] }

func putByWords(r api.Recipe) (string, api.Errno) {
	if !validByWords(r) {
		return "", api.ErrArg
	}
	return bytesOf(r), api.OK
}

// number returns the number of n bytes that stands at an index, the lowest byte first.
func number(s string, at, n int) int {
	k := 0
	for i := range n {
		k += int(s[at+i]) << (8 * i)
	}
	return k
}

// partByWords returns the part whose four bytes, as a number modulo 2^32, stand at an index.
func partByWords(s string, at int) int {
	n := number(s, at, 4)
	if n > 1<<31-1 {
		n -= 1 << 32
	}
	return n
}

// getByWords takes the numbers from where they stand.
func getByWords(s string) (api.Recipe, api.Errno) {
	if len(s) < 26 || s[:4] != "RECP" {
		return api.Recipe{}, api.ErrCorrupt
	}
	mans := 20 + number(s, 16, 4)
	if len(s) < mans+6 {
		return api.Recipe{}, api.ErrCorrupt
	}
	end := mans + 2 + 4*number(s, mans, 2)
	if len(s) != end+4 || uint32(number(s, end, 4)) != crc32.ChecksumIEEE([]byte(s[:end])) {
		return api.Recipe{}, api.ErrCorrupt
	}
	r := api.Recipe{Name: s[20:mans], Size: number(s, 4, 4), Re: partByWords(s, 8), Im: partByWords(s, 12)}
	for at := mans + 2; at < end; at += 4 {
		r.Mans = append(r.Mans, uint32(number(s, at, 4)))
	}
	if !validByWords(r) {
		return api.Recipe{}, api.ErrCorrupt
	}
	return r, api.OK
}

// partsByWords adds up the bytes at the four kinds of indexes.
func partsByWords(s string) (int, int) {
	var sums [4]int
	for i := range len(s) {
		sums[i%4] += int(s[i])
	}
	return sums[0] - sums[2], sums[1] - sums[3]
}

func ofByWords(name, s string, mans []uint32) (api.Recipe, api.Errno) {
	re, im := partsByWords(s)
	r := api.Recipe{Name: name, Size: len(s), Re: re, Im: im, Mans: slices.Clone(mans)}
	if !validByWords(r) {
		return api.Recipe{}, api.ErrArg
	}
	return r, api.OK
}

func fitsByWords(r api.Recipe, s string) bool {
	re, im := partsByWords(s)
	return validByWords(r) && len(s) == r.Size && re == r.Re && im == r.Im
}

// joinByWords turns each weight by the bytes ahead of its stream, a quarter at a time.
func joinByWords(name string, l []api.Recipe) (api.Recipe, api.Errno) {
	j := api.Recipe{Name: name}
	for _, r := range l {
		if !validByWords(r) {
			return api.Recipe{}, api.ErrArg
		}
		re, im := r.Re, r.Im
		for range j.Size % 4 {
			re, im = -im, re
		}
		j.Size, j.Re, j.Im = j.Size+r.Size, j.Re+re, j.Im+im
		j.Mans = append(j.Mans, r.Mans...)
	}
	if !validByWords(j) {
		return api.Recipe{}, api.ErrArg
	}
	return j, api.OK
}

func sameByWords(a, b api.Recipe) bool {
	if a.Name != b.Name || a.Size != b.Size || a.Re != b.Re || a.Im != b.Im || len(a.Mans) != len(b.Mans) {
		return false
	}
	for i, id := range a.Mans {
		if b.Mans[i] != id {
			return false
		}
	}
	return true
}

// nothing tells whether a recipe is what is returned with an error.
func nothing(r api.Recipe) bool { return sameByWords(r, api.Recipe{}) }

// expectErr holds the error of a call.
func expectErr(t *testing.T, what string, e, want api.Errno) {
	t.Helper()
	if e != want {
		t.Errorf("%s: error %d, not %d", what, e, want)
	}
}

// told is a recipe as a text, without most of many manifests, or of a long name.
func told(r api.Recipe) string {
	return fmt.Sprintf("%q %d %d%+di %d: %d", cropped(r.Name), r.Size, r.Re, r.Im, len(r.Mans), few(r.Mans))
}

// cropped is a text without most of a long one.
func cropped(s string) string { return s[:min(len(s), 200)] }

// few is a list without most of many.
func few[T any](l []T) []T { return l[:min(len(l), 12)] }

// kept does a call, and holds that the list that it is passed stays as it is, with what is behind its end.
func kept(t *testing.T, what string, l []uint32, do func(l []uint32)) {
	t.Helper()
	given := withMore(l)
	do(given)
	if !stillMore(given, l) {
		t.Errorf("%s: the list was changed", what)
	}
}

// withMore returns a list behind whose end there is something that is not of it.
func withMore(l []uint32) []uint32 { return append(slices.Clone(l), 777)[:len(l)] }

// stillMore tells whether what withMore returned is as it was.
func stillMore(given, l []uint32) bool {
	return slices.Equal(given, l) && given[:len(l)+1][len(l)] == 777
}

// keptMans does as kept, with the manifests of a recipe.
func keptMans(t *testing.T, what string, r api.Recipe, do func(r api.Recipe)) {
	t.Helper()
	kept(t, what, r.Mans, func(l []uint32) {
		given := r
		given.Mans = l
		do(given)
	})
}

// scribble writes into an answer: that is to be seen nowhere else.
func scribble(r api.Recipe) {
	for i := range r.Mans {
		r.Mans[i] = 99
	}
}

// expectPut holds Check, Put and Weight against the document's words, and what Put returned against what it was made from;
// it returns the bytes.
func expectPut(t *testing.T, what string, r api.Recipe) string {
	t.Helper()
	what += ": " + told(r)
	want, wantE := putByWords(r)
	keptMans(t, what, r, func(r api.Recipe) {
		for range 2 {
			expectErr(t, "Check: "+what, Check(r), wantE)
			if s, e := Put(r); s != want || e != wantE {
				t.Errorf("Put: %s: %q %d, not %q %d", what, cropped(s), e, cropped(want), wantE)
			}
			if z := Weight(r); z != weightByWords(r) {
				t.Errorf("Weight: %s: %v", what, z)
			}
		}
	})
	if !Same(r, r) {
		t.Errorf("%s: it is not the same as itself", what)
	}
	if wantE != api.OK {
		return ""
	}
	if n := Size(r.Name, len(r.Mans)); n != len(want) {
		t.Errorf("%s: Size %d of %d bytes", what, n, len(want))
	}
	if !sameByWords(expectGet(t, what, want), r) {
		t.Errorf("%s: Get returns another one", what)
	}
	return want
}

// expectGet holds Get against the document's words; it returns the recipe, or none.
func expectGet(t *testing.T, what, s string) api.Recipe {
	t.Helper()
	want, wantE := getByWords(s)
	for range 2 {
		r, e := Get(s)
		if !sameByWords(r, want) || e != wantE {
			t.Errorf("%s: Get of %q: %s, %d, not %s, %d", what, cropped(s), told(r), e, told(want), wantE)
			break
		}
		if again, e := Put(r); wantE == api.OK && (again != s || e != api.OK) {
			t.Errorf("%s: Put returns %q %d for what is got of %q", what, cropped(again), e, cropped(s))
		}
		scribble(r)
	}
	return want
}

// expectCorrupt holds that a text is not the bytes of a recipe, by the document's words, too.
func expectCorrupt(t *testing.T, what, s string) {
	t.Helper()
	if r := expectGet(t, what, s); !nothing(r) {
		t.Errorf("%s: by the words it is one: %q", what, cropped(s))
	}
	if r, e := Get(s); !nothing(r) || e != api.ErrCorrupt {
		t.Errorf("%s: Get of %q: %s, %d", what, cropped(s), told(r), e)
	}
}

// expectOf holds Of against the document's words, and Fits, which must hold for what Of returns; it returns the recipe,
// or none.
func expectOf(t *testing.T, name, s string, mans ...uint32) api.Recipe {
	t.Helper()
	what := fmt.Sprintf("%q of %d bytes %q with %d manifests %d", cropped(name), len(s), cropped(s), len(mans), few(mans))
	want, wantE := ofByWords(name, s, mans)
	kept(t, what, mans, func(mans []uint32) {
		for range 2 {
			r, e := Of(name, s, mans...)
			if !sameByWords(r, want) || e != wantE {
				t.Errorf("Of: %s: %s, %d, not %s, %d", what, told(r), e, told(want), wantE)
			}
			expectErr(t, "Check of Of: "+what, Check(r), wantE)
			if Fits(r, s) != (wantE == api.OK) {
				t.Errorf("%s: Fits does not hold what Of returns", what)
			}
			scribble(r)
		}
	})
	return want
}

// expectFits holds Fits against the document's words.
func expectFits(t *testing.T, what string, r api.Recipe, s string, want bool) {
	t.Helper()
	what += ": " + told(r)
	if fitsByWords(r, s) != want {
		t.Errorf("%s: by the words %v for %q", what, !want, cropped(s))
	}
	keptMans(t, what, r, func(r api.Recipe) {
		for range 2 {
			if Fits(r, s) != want {
				t.Errorf("%s: Fits %v for %d bytes %q", what, !want, len(s), cropped(s))
			}
		}
	})
}

// expectJoin holds Join against the document's words; it returns the recipe, or none.
func expectJoin(t *testing.T, what, name string, l ...api.Recipe) api.Recipe {
	t.Helper()
	what = fmt.Sprintf("%s: %d recipes as %q", what, len(l), cropped(name))
	for _, r := range few(l) {
		what += ", " + told(r)
	}
	want, wantE := joinByWords(name, l)
	given := make([]api.Recipe, len(l), len(l)+1)
	for i, r := range l {
		given[i] = r
		given[i].Mans = withMore(r.Mans)
	}
	behind := api.Recipe{Name: "behind", Size: 7}
	given[:len(l)+1][len(l)] = behind
	for range 2 {
		j, e := Join(name, given...)
		if !sameByWords(j, want) || e != wantE {
			t.Errorf("Join: %s: %s, %d, not %s, %d", what, told(j), e, told(want), wantE)
		}
		scribble(j)
	}
	for i, r := range l {
		if x := given[i]; !sameByWords(x, r) || !stillMore(x.Mans, r.Mans) {
			t.Errorf("%s: recipe %d was changed", what, i)
			break
		}
	}
	if !sameByWords(given[:len(l)+1][len(l)], behind) {
		t.Errorf("%s: the list was changed", what)
	}
	return want
}

// anyNumbers returns what makes numbers from 0 on, below what it is asked for; another seed gives other ones.
func anyNumbers(seed uint32) func(below int) int {
	return func(below int) int {
		seed = seed*1664525 + 1013904223
		return int(seed>>8) % below
	}
}

// anyText returns a text of n bytes.
func anyText(next func(below int) int, n int) string {
	b := make([]byte, n)
	for i := range b {
		b[i] = byte(next(256))
	}
	return string(b)
}

// mans returns n manifests that a recipe may have.
func mans(n int) []uint32 {
	var l []uint32
	for i := range n {
		l = append(l, 1+uint32(i*0x01020304)%mostID)
	}
	return l
}

// listOf returns a recipe that is valid, if n is at most 1024, with n manifests.
func listOf(n int) api.Recipe {
	return api.Recipe{Name: "list", Size: 300 + n, Re: -7 * n, Im: 9 * n, Mans: mans(n)}
}

// anyRecipe returns a recipe that is valid.
func anyRecipe(next func(below int) int) api.Recipe {
	r := api.Recipe{Name: anyText(next, 1+next(mostName)), Size: next(1 << next(21))}
	r.Re = (next(1<<16)<<16 + next(1<<16) - 1<<31) >> next(32)
	r.Im = (next(1<<16)<<16 + next(1<<16) - 1<<31) >> next(32)
	for range next(1 + next(1+next(mostMans+1))) {
		r.Mans = append(r.Mans, 1+uint32(next(1<<(1+next(23)))))
	}
	return r
}

// edgeInts returns numbers at the edges of a recipe's Size, Re and Im, and such as come round to them where numbers have
// bounds.
func edgeInts() []int {
	return []int{
		math.MinInt, math.MinInt + 1, -1<<33 - 1, -1 << 32, -1<<32 + 1, -1<<31 - 2, -1<<31 - 1, -1 << 31, -1<<31 + 1, -65536, -256, -2, -1, 0, 1, 2, 255, 256, 257, 65535, 65536,
		1<<20 - 1, 1 << 20, 1<<20 + 1, 1<<20 + 2, 1 << 21, 1<<31 - 2, 1<<31 - 1, 1 << 31, 1<<31 + 1, 1<<32 - 1, 1 << 32, 1<<32 + 1, 1<<32 + 1<<20, 1 << 53, 1<<53 + 1, math.MaxInt - 1, math.MaxInt,
	}
}

func edgeIDs() []uint32 {
	return []uint32{0, 1, 2, 255, 256, 1 << 16, 1 << 31, mostID - 1, mostID, mostID + 1}
}

// edgeNames returns names of lengths at the edges, and of all kinds of bytes.
func edgeNames() []string {
	l := []string{"\x00", "\xff", "\n", " ", "\x00\x00", "a\x00", "\xc3\x28", "日本語", "RECP", strings.Repeat("\x00", 48), strings.Repeat("\xff", 48), strings.Repeat("日", 16), strings.Repeat("日", 17)}
	for _, n := range []int{0, 1, 2, 3, 4, 47, 48, 49, 50, 64, 255, 256, 257, 65535, 65536, 65537} {
		l = append(l, strings.Repeat("n", n))
	}
	return l
}

// edgeNumbers returns numbers of manifests.
func edgeNumbers() []int {
	return []int{0, 1, 2, 3, 255, 256, 257, 1022, 1023, 1024, 1025, 1026, 2048, 65535, 65536, 65537, 65536 + 1024}
}
