package sha

import (
	"crypto/sha256"
	"encoding/hex"
	"slices"
	"strings"
	"testing"

	"sheaf/api"
)

// edges returns the lengths at which the number of blocks of a text changes, and those around them.
func edges() []int {
	l := []int{0, 1, 2, 3, 55, 56, 63, 64, 65, 183, 184, 191, 192, 193}
	for n := 119; n <= 128; n++ {
		l = append(l, n)
	}
	return l
}

// texts returns texts of all short lengths and of some long ones: of any bytes, of zero bytes, of bytes with all bits 1.
func texts() []string {
	var l []string
	for n := range 260 {
		l = append(l, anyText(n, uint32(n)), strings.Repeat("\x00", n), strings.Repeat("\xff", n))
	}
	for _, n := range []int{511, 512, 513, api.MaxChunk - 1, api.MaxChunk, api.MaxChunk + 1, api.MaxText, api.MaxStream} {
		l = append(l, anyText(n, 5))
	}
	return append(l, "ä", "\x80", "a\x80", "\x80\x00", "a\x00", "\x00a")
}

// sumByBlocks is what P3.2 says: the blocks of the text, one by one, from the start.
func sumByBlocks(t *testing.T, s string) api.Fp {
	t.Helper()
	end, e := Pad(len(s))
	if e != api.OK || (len(s)+len(end))%64 != 0 {
		t.Fatalf("Pad(%d): %q %d", len(s), end, e)
	}
	state := Start()
	for b := range slices.Chunk([]byte(s+end), 64) {
		if state, e = Block(state, string(b)); e != api.OK {
			t.Fatalf("Block(%q): %d", b, e)
		}
	}
	var f api.Fp
	for i, n := range state {
		f[4*i], f[4*i+1], f[4*i+2], f[4*i+3] = byte(n>>24), byte(n>>16), byte(n>>8), byte(n)
	}
	return f
}

// P3.2, and the chapter's example: hashes that are known.
func TestSumKnown(t *testing.T) {
	for _, c := range []struct{ s, want string }{
		{"", "e3b0c44298fc1c149afbf4c8996fb92427ae41e4649b934ca495991b7852b855"},
		{"abc", "ba7816bf8f01cfea414140de5dae2223b00361a396177a9cb410ff61f20015ad"},
		{
			"abcdbcdecdefdefgefghfghighijhijkijkljklmklmnlmnomnopnopq",
			"248d6a61d20638b8e5c026930c3e6039a33ce45964ff2167f6ecedd419db06c1",
		},
		{
			"abcdefghbcdefghicdefghijdefghijkefghijklfghijklmghijklmnhijklmnoijklmnopjklmnopqklmnopqrlmnopqrsmnopqrstnopqrstu",
			"cf5b16a778af8380036ce59e7b0492370b249b11e8f07a51afac45037afee9d1",
		},
		{strings.Repeat("a", 1000000), "cdc76e5c9914fb9281a1c7e284d73e67f1809a48a497200e046d39ccc7112cd0"},
	} {
		f := Sum(c.s)
		if hex.EncodeToString(f[:]) != c.want {
			t.Errorf("Sum of %d bytes: %x, not %s", len(c.s), f, c.want)
		}
	}
	if f := Sum("abc"); f[0] != 186 || f[1] != 120 || f[2] != 22 || f[3] != 191 {
		t.Errorf("the chapter's example: %d", f[:4])
	}
}

// P3.2: Sum of many texts, by their blocks and by Go's library.
func TestSum(t *testing.T) {
	for _, s := range texts() {
		f := Sum(s)
		if want := sumByBlocks(t, s); f != want {
			t.Errorf("Sum of %d bytes: %x, not %x as its blocks say", len(s), f, want)
		}
		if want := api.Fp(sha256.Sum256([]byte(s))); f != want {
			t.Errorf("Sum of %d bytes: %x, not %x", len(s), f, want)
		}
	}
}

// P3.2: the text itself, and not that of its padding too, is hashed: texts that end like a padding have hashes of their own.
func TestSumOfPadded(t *testing.T) {
	seen := map[api.Fp]string{}
	for _, n := range edges() {
		s := anyText(n, 9)
		end, _ := Pad(n)
		for _, s := range []string{s, s + "\x80", s + end, s + end + end, s + "\x00"} {
			f := Sum(s)
			if before, ok := seen[f]; ok && before != s {
				t.Errorf("one hash of %q and of %q", before, s)
			}
			seen[f] = s
			if f != sha256.Sum256([]byte(s)) {
				t.Errorf("Sum(%q): %x", s, f)
			}
		}
	}
}

// P3.2: no part, empty parts, and many parts.
func TestSumParts(t *testing.T) {
	empty, abc := Sum(""), Sum("abc")
	for _, l := range [][]string{nil, {}, {"", ""}, make([]string, 1000)} {
		if f := Sum(l...); f != empty {
			t.Errorf("Sum of %d empty parts: %x", len(l), f)
		}
	}
	for _, l := range [][]string{{"abc"}, {"", "abc"}, {"abc", ""}, {"a", "bc"}, {"ab", "", "c"}, {"", "a", "", "b", "", "c", ""}} {
		if f := Sum(l...); f != abc {
			t.Errorf("Sum(%q): %x", l, f)
		}
	}
	if Sum("ab", "c") == Sum("c", "ab") {
		t.Error("the order of the parts is not seen")
	}
	s := anyText(10000, 4)
	if f := Sum(strings.Split(s, "")...); f != sha256.Sum256([]byte(s)) {
		t.Errorf("Sum of many parts: %x", f)
	}
}

// P3.2, and rule 4 of the document: the list of parts is left as it was.
func TestSumLeavesParts(t *testing.T) {
	l := []string{"some", "", anyText(200, 1), "parts"}
	before := slices.Clone(l)
	if Sum(l...) != Sum(l...) || !slices.Equal(l, before) {
		t.Errorf("parts: %q", l)
	}
}
