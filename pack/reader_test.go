package pack

import (
	"math"
	"slices"
	"strings"
	"testing"

	"sheaf/api"
)

// stands holds a reader's Left, Err and End against what they must be.
func stands(t *testing.T, what string, r *Reader, left int, err, end api.Errno) {
	t.Helper()
	if r.Left() != left || r.Err() != err || r.End() != end {
		t.Errorf("%s: Left %d, Err %d, End %d; not %d, %d, %d", what, r.Left(), r.Err(), r.End(), left, err, end)
	}
}

// silent tells whether every reading call returns nothing.
func silent(r *Reader) bool {
	return r.U8() == 0 && r.U16() == 0 && r.U32() == 0 && r.U64() == 0 &&
		r.Take(0) == "" && r.Take(1) == "" && r.Text() == "" && len(r.List()) == 0
}

// P1.2: numbers are read one after another, the least significant byte first.
func TestReadNumbers(t *testing.T) {
	r := Read("\xfe" + "\x02\x01" + "\x01\x02\x03\x84" + "\x01\x02\x03\x04\x05\x06\x07\x88")
	stands(t, "at the beginning", r, 15, api.OK, api.ErrForm)
	if n := r.U8(); n != 0xfe {
		t.Errorf("U8: %x", n)
	}
	stands(t, "behind U8", r, 14, api.OK, api.ErrForm)
	if n := r.U16(); n != 258 {
		t.Errorf("U16: %d", n)
	}
	stands(t, "behind U16", r, 12, api.OK, api.ErrForm)
	if n := r.U32(); n != 0x84030201 {
		t.Errorf("U32: %x", n)
	}
	stands(t, "behind U32", r, 8, api.OK, api.ErrForm)
	if n := r.U64(); n != 0x8807060504030201 {
		t.Errorf("U64: %x", n)
	}
	stands(t, "at the end", r, 0, api.OK, api.OK)
}

// P1.2: Take of 0, of some, of all.
func TestTake(t *testing.T) {
	r := Read("a\x00\xffbc")
	for _, c := range []struct {
		n    int
		want string
		left int
		end  api.Errno
	}{
		{0, "", 5, api.ErrForm},
		{3, "a\x00\xff", 2, api.ErrForm},
		{0, "", 2, api.ErrForm},
		{2, "bc", 0, api.OK},
		{0, "", 0, api.OK},
	} {
		if s := r.Take(c.n); s != c.want {
			t.Errorf("Take(%d): %q, not %q", c.n, s, c.want)
		}
		stands(t, "behind Take", r, c.left, api.OK, c.end)
	}
}

// P1.2: Take of a number below 0, and of more than is left.
func TestTakeWrong(t *testing.T) {
	for _, c := range []struct {
		s string
		n int
		e api.Errno
	}{
		{"abc", -1, api.ErrArg},
		{"abc", math.MinInt, api.ErrArg},
		{"", -1, api.ErrArg},
		{"abc", 4, api.ErrShort},
		{"abc", math.MaxInt, api.ErrShort},
		{"", 1, api.ErrShort},
	} {
		r := Read(c.s)
		if s := r.Take(c.n); s != "" {
			t.Errorf("Take(%d) of %q: %q", c.n, c.s, s)
		}
		stands(t, "behind a wrong Take", r, 0, c.e, c.e)
	}
}

// P1.2: texts, up to the limit.
func TestReadText(t *testing.T) {
	for _, s := range []string{"", "a", "\x00\xff", strings.Repeat("x", 258), strings.Repeat("y", api.MaxText)} {
		r := Read(Text(s) + "z")
		if got := r.Text(); got != s {
			t.Errorf("a text of %d bytes: %d bytes", len(s), len(got))
		}
		stands(t, "behind a text", r, 1, api.OK, api.ErrForm)
	}
}

// P1.2: lists, up to the limit.
func TestReadList(t *testing.T) {
	most := make([]string, api.MaxList)
	most[0], most[api.MaxList-1] = "first", "last"
	for _, l := range [][]string{nil, {""}, {"", ""}, {"a", "", "bc"}, {strings.Repeat("y", api.MaxText), "z"}, most} {
		r := Read(List(l...) + "z")
		if got := r.List(); !slices.Equal(got, l) {
			t.Errorf("a list of %d texts: %d texts", len(l), len(got))
		}
		stands(t, "behind a list", r, 1, api.OK, api.ErrForm)
	}
}

// P1.2: ErrLong and ErrShort of texts: what is too great is ErrLong, whatever follows.
func TestTextErrors(t *testing.T) {
	over := U32(api.MaxText + 1)
	for _, c := range []struct {
		what, s string
		e       api.Errno
	}{
		{"too long, all there", over + strings.Repeat("x", api.MaxText+1), api.ErrLong},
		{"too long, not all there", over + "x", api.ErrLong},
		{"too long, none there", over, api.ErrLong},
		{"much too long", "\xff\xff\xff\xff", api.ErrLong},
		{"too long, seen as signed below 0", "\x00\x00\x00\x80abc", api.ErrLong},
		{"at the limit, one lacks", U32(api.MaxText) + strings.Repeat("x", api.MaxText-1), api.ErrShort},
		{"at the limit, none there", U32(api.MaxText), api.ErrShort},
		{"no length", "", api.ErrShort},
		{"a length cut short", "\xff\xff\xff", api.ErrShort},
	} {
		r := Read(c.s)
		if s := r.Text(); s != "" {
			t.Errorf("%s: %d bytes", c.what, len(s))
		}
		stands(t, c.what, r, 0, c.e, c.e)
	}
}

// P1.2: of a list it is the first error in the order of its bytes.
func TestListErrors(t *testing.T) {
	over := U32(api.MaxText + 1)
	for _, c := range []struct {
		what, s string
		e       api.Errno
	}{
		{"too many, all there", List(make([]string, api.MaxList+1)...), api.ErrLong},
		{"too many, none there", U32(api.MaxList + 1), api.ErrLong},
		{"too many, then a text too long", U32(api.MaxList+1) + over, api.ErrLong},
		{"much too many", "\xff\xff\xff\xffabc", api.ErrLong},
		{"at the limit, none there", U32(api.MaxList), api.ErrShort},
		{"at the limit, one lacks", U32(api.MaxList) + strings.Repeat("\x00", 4*(api.MaxList-1)), api.ErrShort},
		{"a number cut short", "\xff\xff\xff", api.ErrShort},
		{"a text too long, not there", U32(2) + Text("a") + over, api.ErrLong},
		{"a text too long, all there", List("a", strings.Repeat("x", api.MaxText+1)), api.ErrLong},
		{"a text too long, then one short", U32(2) + over + Text("") + "\x01", api.ErrLong},
		{"a text short, where one too long might follow", U32(2) + U32(9) + over, api.ErrShort},
		{"a text without its length", U32(2) + Text("a"), api.ErrShort},
		{"a text whose length is cut short", U32(2) + Text("a") + "\xff\xff\xff", api.ErrShort},
	} {
		r := Read(c.s)
		if l := r.List(); len(l) != 0 {
			t.Errorf("%s: %d texts", c.what, len(l))
		}
		stands(t, c.what, r, 0, c.e, c.e)
	}
}

// P1.2: bytes that end anywhere within what is to be read.
func TestCutShort(t *testing.T) {
	for _, c := range []struct {
		what, s string
		read    func(r *Reader) bool // whether it returned something
	}{
		{"U8", U8(255), func(r *Reader) bool { return r.U8() != 0 }},
		{"U16", U16(0xffff), func(r *Reader) bool { return r.U16() != 0 }},
		{"U32", U32(0xffffffff), func(r *Reader) bool { return r.U32() != 0 }},
		{"U64", U64(math.MaxUint64), func(r *Reader) bool { return r.U64() != 0 }},
		{"Take", "abc", func(r *Reader) bool { return r.Take(3) != "" }},
		{"Text", Text("abc"), func(r *Reader) bool { return r.Text() != "" }},
		{"List", List("a", "", "bc"), func(r *Reader) bool { return len(r.List()) != 0 }},
	} {
		for n := range len(c.s) {
			r := Read(c.s[:n])
			if c.read(r) {
				t.Errorf("%s of %d bytes returned something", c.what, n)
			}
			stands(t, c.what, r, 0, api.ErrShort, api.ErrShort)
		}
		r := Read(c.s)
		if !c.read(r) {
			t.Errorf("%s of all its bytes returned nothing", c.what)
		}
		stands(t, c.what, r, 0, api.OK, api.OK)
	}
}

// P1.2: after an error nothing is returned, and that error stays.
func TestAfterError(t *testing.T) {
	rest := strings.Repeat("\x01\x00\x00\x00", 20)
	for _, c := range []struct {
		what string
		s    string
		read func(r *Reader)
		e    api.Errno
	}{
		{"ErrArg", rest, func(r *Reader) { r.Take(-1) }, api.ErrArg},
		{"ErrLong of a text", "\xff\xff\xff\xff" + rest, func(r *Reader) { r.Text() }, api.ErrLong},
		{"ErrLong of a list", "\xff\xff\xff\xff" + rest, func(r *Reader) { r.List() }, api.ErrLong},
		{"ErrLong in a list", List("a") + U32(1) + "\xff\xff\xff\xff" + rest, func(r *Reader) { r.List(); r.List() }, api.ErrLong},
		{"ErrShort", rest, func(r *Reader) { r.Take(len(rest) + 1) }, api.ErrShort},
	} {
		r := Read(c.s)
		c.read(r)
		stands(t, c.what, r, 0, c.e, c.e)
		if !silent(r) || r.Take(-1) != "" || r.Take(math.MaxInt) != "" || !silent(r) {
			t.Errorf("%s: a later call returned something", c.what)
		}
		stands(t, c.what+", later calls", r, 0, c.e, c.e)
	}
}

// P1.2: End tells of bytes that are left, and takes nothing away.
func TestEnd(t *testing.T) {
	r := Read("\x07\x08")
	for range 2 {
		stands(t, "two bytes", r, 2, api.OK, api.ErrForm)
	}
	if n := r.U8(); n != 7 {
		t.Errorf("U8 behind End: %d", n)
	}
	if n := r.U8(); n != 8 {
		t.Errorf("U8 at last: %d", n)
	}
	stands(t, "all read", r, 0, api.OK, api.OK)
	stands(t, "nothing to read", Read(""), 0, api.OK, api.OK)
}

// P1.2: a nil reader returns zero values and ErrNil, whatever is asked of it.
func TestNilReader(t *testing.T) {
	var r *Reader
	if !silent(r) || r.Take(-1) != "" || r.Take(math.MaxInt) != "" {
		t.Error("a nil reader returned something")
	}
	stands(t, "a nil reader", r, 0, api.ErrNil, api.ErrNil)
}

// P1.2: a zero reader reads the empty text.
func TestZeroReader(t *testing.T) {
	var r Reader
	stands(t, "a zero reader", &r, 0, api.OK, api.OK)
	if s := r.Take(0); s != "" {
		t.Errorf("Take(0) of a zero reader: %q", s)
	}
	stands(t, "a zero reader behind Take(0)", &r, 0, api.OK, api.OK)
	if r.U8() != 0 || !silent(&r) {
		t.Error("a zero reader returned something")
	}
	stands(t, "a zero reader behind U8", &r, 0, api.ErrShort, api.ErrShort)
	r = Reader{}
	r.Take(-1)
	stands(t, "a zero reader behind Take(-1)", &r, 0, api.ErrArg, api.ErrArg)
	for what, read := range map[string]func(*Reader){
		"U16":  func(r *Reader) { r.U16() },
		"U32":  func(r *Reader) { r.U32() },
		"U64":  func(r *Reader) { r.U64() },
		"Take": func(r *Reader) { r.Take(1) },
		"Text": func(r *Reader) { r.Text() },
		"List": func(r *Reader) { r.List() },
	} {
		r = Reader{}
		read(&r)
		stands(t, "a zero reader behind "+what, &r, 0, api.ErrShort, api.ErrShort)
	}
}

// Rule 4: readers of one text share nothing, nor do the lists that they return.
func TestReadersApart(t *testing.T) {
	s := List("a", "b")
	one, two := Read(s), Read(s)
	l := one.List()
	l[0] = "changed"
	stands(t, "the other reader", two, len(s), api.OK, api.ErrForm)
	if m := two.List(); !slices.Equal(m, []string{"a", "b"}) {
		t.Errorf("the other list: %q", m)
	}
}

// P1.3: what was encoded is read again in the same order.
func TestEncodedIsRead(t *testing.T) {
	long := strings.Repeat("\xe4", api.MaxText)
	r := Read(Text("ab") + U8(200) + List("", "c") + U64(1<<63|5) + List() + U16(515) + Text("") + U32(1<<31|9) + Text(long) + "end")
	if s := r.Text(); s != "ab" {
		t.Errorf("the first text: %q", s)
	}
	if n := r.U8(); n != 200 {
		t.Errorf("U8: %d", n)
	}
	if l := r.List(); !slices.Equal(l, []string{"", "c"}) {
		t.Errorf("the first list: %q", l)
	}
	if n := r.U64(); n != 1<<63|5 {
		t.Errorf("U64: %d", n)
	}
	if l := r.List(); len(l) != 0 {
		t.Errorf("the empty list: %q", l)
	}
	if n := r.U16(); n != 515 {
		t.Errorf("U16: %d", n)
	}
	if s := r.Text(); s != "" {
		t.Errorf("the empty text: %q", s)
	}
	if n := r.U32(); n != 1<<31|9 {
		t.Errorf("U32: %d", n)
	}
	if s := r.Text(); s != long {
		t.Errorf("the long text: %d bytes", len(s))
	}
	if s := r.Take(3); s != "end" {
		t.Errorf("the end: %q", s)
	}
	stands(t, "all of it", r, 0, api.OK, api.OK)
}

// P1.3: every number of a byte, and one bit at every place, comes back.
func TestNumbersComeBack(t *testing.T) {
	for n := range 256 {
		if got := Read(U8(uint8(n))).U8(); got != uint8(n) {
			t.Errorf("U8 of %d: %d", n, got)
		}
	}
	for i := range 64 {
		n := uint64(1) << i
		r := Read(U16(uint16(n)) + U32(uint32(n)) + U64(n))
		if r.U16() != uint16(n) || r.U32() != uint32(n) || r.U64() != n || r.End() != api.OK {
			t.Errorf("numbers with bit %d don't come back", i)
		}
	}
}

// P1.3: what was read, encoded again, gives the same bytes.
func TestReadIsEncoded(t *testing.T) {
	for _, s := range []string{
		strings.Repeat("\x00", 15+4+4),
		"\x2a\x01\x02\x03\x04\x05\x06\x07\x08\x09\x0a\x0b\x0c\x0d\x0e" + "\x02\x00\x00\x00ab" + "\x01\x00\x00\x00\x03\x00\x00\x00cde",
		strings.Repeat("\xff", 15) + "\x00\x00\x00\x00" + "\x02\x00\x00\x00\x00\x00\x00\x00\x01\x00\x00\x00\xff",
		strings.Repeat("\x80", 15) + "\x00\x00\x01\x00" + strings.Repeat("y", api.MaxText) + "\x00\x00\x01\x00" + strings.Repeat("\x00", 4*api.MaxList) + "more",
	} {
		r := Read(s)
		again := U8(r.U8()) + U16(r.U16()) + U32(r.U32()) + U64(r.U64())
		again += Text(r.Text()) + List(r.List()...) + r.Take(r.Left())
		if again != s || r.End() != api.OK {
			t.Errorf("%d bytes, encoded again %d; End %d", len(s), len(again), r.End())
		}
	}
}
