package roll

import (
	"strings"
	"testing"
)

// rollOf returns a new roll to which all bytes of s were pushed.
func rollOf(s string) *Roll {
	r := New()
	push(r, s)
	return r
}

func push(r *Roll, s string) {
	for i := range len(s) {
		r.Push(s[i])
	}
}

// expect tells whether r is the roll of s, asking twice.
func expect(t *testing.T, what string, r *Roll, s string) {
	t.Helper()
	for range 2 {
		if r.Sum() != byWords(s) || r.Len() != len(s) {
			t.Errorf("%s, of %d bytes: Sum %d, Len %d, not %d", what, len(s), r.Sum(), r.Len(), byWords(s))
		}
	}
}

// expectPushes pushes s behind the bytes that came before, and holds each answer against the words.
func expectPushes(t *testing.T, what string, r *Roll, before, s string) {
	t.Helper()
	for i := range len(s) {
		all := before + s[:i+1]
		if h := r.Push(s[i]); h != byWords(all) {
			t.Fatalf("%s: Push of byte %d: %d, not %d", what, len(all), h, byWords(all))
		}
		expect(t, what, r, all)
	}
}

// P5.4: New is a roll for no bytes.
func TestNew(t *testing.T) {
	r := New()
	if r == nil {
		t.Fatal("New returned nil")
	}
	expect(t, "new", r, "")
}

// P5.4: Push of the bytes of all texts, with Sum and Len behind each.
func TestPush(t *testing.T) {
	for _, s := range texts() {
		s = s[:min(len(s), 300)]
		r := New()
		expectPushes(t, "text", r, "", s)
		expectPushes(t, "more", r, s, "more")
	}
}

// P5.4: bytes that are known, up to the window and beyond it.
func TestPushKnown(t *testing.T) {
	r := rollOf("0123456789abcd")
	for i, want := range []uint32{559394738, 2030527067, 1219622044, 840910330} {
		if h := r.Push("efgh"[i]); h != want || r.Sum() != want || r.Len() != 15+i {
			t.Errorf("Push of byte %d: %d, Sum %d, Len %d, not %d", 15+i, h, r.Sum(), r.Len(), want)
		}
	}
	r = New()
	for n := range 40 {
		h := r.Push(0)
		if n >= 15 && h != 1091620737 || r.Len() != n+1 {
			t.Errorf("Push of the %dth byte 0: %d, Len %d", n+1, h, r.Len())
		}
	}
}

// P5.4: many bytes: Len counts all of them.
func TestPushMany(t *testing.T) {
	s := anyText(100000, 3)
	l := All(s)
	r := New()
	for i := range len(s) {
		if h := r.Push(s[i]); h != l[i] || r.Sum() != h || r.Len() != i+1 {
			t.Fatalf("Push of byte %d: %d, Sum %d, Len %d, not %d", i, h, r.Sum(), r.Len(), l[i])
		}
	}
	expect(t, "many", r, s)
}

// P5.4: Reset of rolls of all kinds of texts, none among them; no byte of before is left.
func TestReset(t *testing.T) {
	for _, s := range texts() {
		r := rollOf(s)
		r.Reset()
		expect(t, "reset", r, "")
		r.Reset()
		expect(t, "reset twice", r, "")
		expectPushes(t, "pushed behind a Reset", r, "", anyText(20, 5))
		r.Reset()
		expectPushes(t, "pushed behind another Reset", r, "", "\x00ab")
	}
}

// P5.4: two rolls have nothing in common.
func TestTwoRolls(t *testing.T) {
	a, b := New(), New()
	if a == b {
		t.Fatal("New returned one roll twice")
	}
	push(a, "first")
	expect(t, "the other", b, "")
	expectPushes(t, "the other", b, "", "0123456789abcdefgh")
	expect(t, "one", a, "first")
	b.Reset()
	expect(t, "one", a, "first")
	expectPushes(t, "one", a, "first", " and on, beyond the window")
	expect(t, "the other", b, "")
}

// P5.4: a nil Roll.
func TestNilRoll(t *testing.T) {
	var r *Roll
	for _, b := range []byte{0, 1, 'a', 255} {
		if h := r.Push(b); h != 0 {
			t.Errorf("Push to nil: %d", h)
		}
		expect(t, "nil", r, "")
		r.Reset()
		expect(t, "nil, reset", r, "")
	}
}

// P5.4: a Roll that New did not return, but that is not nil.
func TestNotMade(t *testing.T) {
	var list [2]Roll
	for what, r := range map[string]*Roll{"zero": {}, "new": new(Roll), "element": &list[1]} {
		expect(t, what, r, "")
		expectPushes(t, what, r, "", "0123456789abcdefgh")
		r.Reset()
		expect(t, what, r, "")
		expectPushes(t, what, r, "", "xyz")
	}
	var reset Roll
	reset.Reset()
	expect(t, "reset first", &reset, "")
	expectPushes(t, "reset first", &reset, "", "ab")
	expect(t, "the element before", &list[0], "")
}

// P5.5: a roll hangs on its last 16 bytes only, whatever came ahead of them.
func TestRollWindow(t *testing.T) {
	end := anyText(16, 11)
	for n := range 50 {
		for _, ahead := range []string{anyText(n, 1), strings.Repeat("\x00", n), strings.Repeat("\xff", n)} {
			r := rollOf(ahead + end)
			if r.Sum() != byWords(end) || r.Len() != n+16 {
				t.Errorf("%d bytes ahead of the window: Sum %d, Len %d, not %d", n, r.Sum(), r.Len(), byWords(end))
			}
		}
	}
}

// P5.5: pushing is sliding, once there are 16 bytes.
func TestPushAndSlide(t *testing.T) {
	s := anyText(2000, 12)
	r := rollOf(s[:16])
	for i := 16; i < len(s); i++ {
		slid, _ := Slide(r.Sum(), s[i-16], s[i])
		if h := r.Push(s[i]); h != slid || h != Sum(s[:i+1]) {
			t.Fatalf("at %d: pushed %d, slid %d, Sum %d", i, h, slid, Sum(s[:i+1]))
		}
	}
}
