package journal

import (
	"fmt"
	"math/bits"
	"slices"
	"strings"
	"testing"

	"sheaf/api"
)

// The document's example: a transaction of one RNoBox with ID 7 is 7, 0, 0, 0, its CRC, 1, 0, 4, 7, 0, 0, 0.
func TestExample(t *testing.T) {
	s, e := Tx(api.Rec{Kind: api.RNoBox, ID: 7})
	if e != api.OK || len(s) != 15 || s[:4] != "\x07\x00\x00\x00" || s[8:] != "\x01\x00\x04\x07\x00\x00\x00" || s != sealed(s[8:]) {
		t.Errorf("%q %d", s, e)
	}
	expectRead(t, "the example", s, [][]api.Rec{{{Kind: 4, ID: 7}}}, api.OK)
}

// P13.2: the bytes of a record of each Kind, written out.
func TestBytes(t *testing.T) {
	for _, c := range []struct {
		r    api.Rec
		want string
	}{
		{api.Rec{Kind: api.RBox, ID: 0x01020304, Size: 300, Runs: runs(258, 1, 8190, 2)}, "\x01\x04\x03\x02\x01\x2c\x01\x00\x00\x02\x00\x02\x01\x01\x00\xfe\x1f\x02\x00"},
		{api.Rec{Kind: api.RMan, ID: mostID}, "\x02\xfe\xff\xff\xff\x00\x00\x00\x00\x00\x00"},
		{api.Rec{Kind: api.RName, Name: "ab", Size: blobBytes, Runs: runs(0, most)}, "\x03\x02\x00\x00\x00ab\x00\x00\x10\x00\x01\x00\x00\x00\x00\x20"},
		{api.Rec{Kind: api.RName, Name: "\x00"}, "\x03\x01\x00\x00\x00\x00\x00\x00\x00\x00\x00\x00"},
		{api.Rec{Kind: api.RNoBox, ID: 1}, "\x04\x01\x00\x00\x00"},
		{api.Rec{Kind: api.RNoMan, ID: 1 << 31}, "\x05\x00\x00\x00\x80"},
		{api.Rec{Kind: api.RNoName, Name: "xyz"}, "\x06\x03\x00\x00\x00xyz"},
	} {
		want := sealed("\x01\x00" + c.want)
		if s, e := Tx(c.r); s != want || e != api.OK {
			t.Errorf("%s: %q %d, not %q", told(c.r), s, e, want)
		}
		expectRead(t, told(c.r), want, [][]api.Rec{{c.r}}, api.OK)
		two := sealed("\x02\x00" + c.want + c.want)
		if s, e := Tx(c.r, c.r); s != two || e != api.OK {
			t.Errorf("%s, twice: %q %d, not %q", told(c.r), s, e, two)
		}
		expectRead(t, told(c.r)+", twice", two, [][]api.Rec{{c.r, c.r}}, api.OK)
	}
}

// P13.2, P13.5: transactions of no record, of one and of several of each Kind.
func TestTx(t *testing.T) {
	if s, e := Tx(); s != "" || e != api.ErrMany {
		t.Errorf("no record: %q %d", s, e)
	}
	if s, e := Tx([]api.Rec{}...); s != "" || e != api.ErrMany {
		t.Errorf("an empty list: %q %d", s, e)
	}
	all := eachKind()
	for _, a := range all {
		for _, b := range all {
			expectTx(t, "two", []api.Rec{a, b})
			expectTx(t, "three", []api.Rec{b, a, b})
		}
	}
	expectTx(t, "one of each Kind", all)
	slices.Reverse(all)
	expectTx(t, "one of each Kind, backward", all)
	expectTx(t, "an item that comes, goes and comes once more", []api.Rec{blob(1, runs(0, 1)), {Kind: api.RNoBox, ID: 5}, blob(1, runs(0, 1))})
}

// greatest returns the record that has the most bytes.
func greatest() api.Rec {
	return api.Rec{Kind: api.RName, Name: text(1, mostName), Size: 16 * sectorBytes, Runs: alone(most-31, mostRuns)}
}

// P13.2, P13.5: 8192 records and 8193, also the greatest ones; ErrMany comes ahead of ErrArg.
func TestTxMany(t *testing.T) {
	for _, r := range []api.Rec{{Kind: api.RNoBox, ID: 1}, greatest()} {
		l := slices.Repeat([]api.Rec{r}, mostTx+1)
		for i := range l {
			if r.ID != 0 {
				l[i].ID = uint32(i + 1)
			}
		}
		for _, n := range []int{255, 256, 257, mostTx - 1, mostTx} {
			if s := expectTx(t, fmt.Sprint(n, " records"), l[:n]); len(s) != 10+n*len(recordByWords(r)) {
				t.Errorf("%d records: %d bytes", n, len(s))
			}
		}
		for _, n := range []int{0, mostTx / 2, mostTx - 1} {
			broken := slices.Clone(l)
			broken[n].Size = -1
			if s, e := Tx(broken[:mostTx]...); s != "" || e != api.ErrArg {
				t.Errorf("one that is not valid at %d: %d bytes, %d", n, len(s), e)
			}
			if s, e := Tx(broken...); s != "" || e != api.ErrMany {
				t.Errorf("one too many, and one that is not valid: %d bytes, %d", len(s), e)
			}
		}
		if s, e := Tx(l...); s != "" || e != api.ErrMany {
			t.Errorf("one too many: %d bytes, %d", len(s), e)
		}
	}
	if s, e := Tx(make([]api.Rec, 1<<20)...); s != "" || e != api.ErrMany {
		t.Errorf("a great many: %d bytes, %d", len(s), e)
	}
}

// P13.2: one record that is not valid amid valid ones, at each place.
func TestTxWrong(t *testing.T) {
	for _, wrong := range []api.Rec{{}, {Kind: 7, ID: 1}, {Kind: api.RNoBox}, {Kind: api.RNoBox, ID: mostID + 1}, {Kind: api.RNoName, ID: 1}, {Kind: api.RName, Name: text(1, 49)}, blob(1, nil), blob(-1, nil), blob(300, runs(0, 4)), blob(300, runs(0, 2, 1, 1)), blob(17*sectorBytes, alone(0, 17))} {
		expectCheck(t, "meant to be wrong", wrong)
		for at := range 7 {
			l := slices.Insert(eachKind(), at, wrong)
			if s, e := Tx(l...); s != "" || e != api.ErrArg {
				t.Errorf("%s at %d: %q %d", told(wrong), at, s, e)
			}
			expectTx(t, "one that is wrong", l)
		}
	}
}

// P13.2, P13.5: Read of nothing, of one transaction and of several.
func TestRead(t *testing.T) {
	expectRead(t, "nothing", "", nil, api.OK)
	next := anyNumbers(9)
	s := ""
	var all [][]api.Rec
	for range 60 {
		l := anyTx(next)
		tx := expectTx(t, "any", l)
		s, all = s+tx, append(all, l)
		expectRead(t, "one behind the other", s, all, api.OK)
		expectWords(t, "one behind the other", s)
		expectRead(t, "the same twice", tx+tx, [][]api.Rec{l, l}, api.OK)
	}
	one, _ := Tx(greatest())
	many := strings.Repeat(one, 5000)
	if got, e := Read(many); len(got) != 5000 || e != api.OK || !Same(got[4999][0], greatest()) {
		t.Errorf("5000 transactions: %d, %d", len(got), e)
	}
	if got, e := Read(many + "\x00"); len(got) != 0 || e != api.ErrCorrupt {
		t.Errorf("5000 transactions, and a byte: %d, %d", len(got), e)
	}
}

// samples returns transactions, one text for each, of one record and of several.
func samples() []string {
	var l []string
	for _, r := range append(eachKind(), greatest(), api.Rec{Kind: api.RMan, ID: 1}) {
		s, _ := txByWords([]api.Rec{r})
		l = append(l, s)
	}
	s, _ := txByWords(eachKind())
	return append(l, s)
}

// P13.2: transactions cut at each of their bytes, ahead of others, behind others, and without the first bytes; and with bytes behind the last one.
func TestReadCut(t *testing.T) {
	l := samples()
	for i, s := range l {
		other := l[(i+1)%len(l)]
		for n := 1; n < len(s); n++ {
			expectCorrupt(t, "cut", s[:n])
			expectCorrupt(t, "cut behind another one", other+s[:n])
			expectCorrupt(t, "cut ahead of another one", s[:n]+other)
			expectCorrupt(t, "without the first bytes", s[n:])
			expectCorrupt(t, "without a byte", s[:n-1]+s[n:])
			expectCorrupt(t, "with a byte more", s[:n]+"\x00"+s[n:])
		}
		for _, behind := range []string{"\x00", "\x01", "\xff", "\x00\x00\x00\x00", strings.Repeat("\x00", 8), strings.Repeat("\x00", 128), "\x01\x00\x00\x00\x00\x00\x00\x00", s[8:], text(i, 40)} {
			expectCorrupt(t, "bytes behind", s+behind)
			expectCorrupt(t, "bytes ahead", behind+s)
			expectCorrupt(t, "bytes alone", behind)
			expectCorrupt(t, "bytes between", s+behind+other)
		}
	}
}

// P13.2: transactions with each of their bits turned, and with each byte another one.
func TestReadTurned(t *testing.T) {
	for _, s := range samples() {
		for i := range len(s) {
			for _, by := range []byte{1, 2, 4, 8, 16, 32, 64, 128, 255, 3, 0x55} {
				b := []byte(s)
				b[i] ^= by
				if expectWords(t, "turned", string(b)) && bits.OnesCount8(by) == 1 {
					t.Errorf("a bit of %d is turned, and not detected: %q", i, s)
				}
				expectWords(t, "turned, amid others", samples()[3]+string(b)+samples()[0])
			}
		}
	}
}

// P13.2: bodies of which one byte is another one, with each other value, and the CRC is right for it.
func TestReadSealed(t *testing.T) {
	for _, s := range samples() {
		body := s[8:]
		for i := range len(body) {
			for by := 1; by < 256; by++ {
				b := []byte(body)
				b[i] ^= byte(by)
				expectWords(t, "sealed anew", sealed(string(b)))
			}
		}
		for n := range len(body) {
			expectCorrupt(t, "cut, and sealed anew", sealed(body[:n]))
			expectWords(t, "without a byte, and sealed anew", sealed(body[:n]+body[n+1:]))
			expectWords(t, "with a byte more, and sealed anew", sealed(body[:n]+"\x00"+body[n:]))
		}
		for _, behind := range []string{"\x00", "\x04", "\x04\x01\x00\x00", "\x04\x01\x00\x00\x00", "\xff\xff\xff\xff\xff\xff\xff\xff"} {
			expectCorrupt(t, "bytes behind, within", sealed(body+behind))
		}
	}
}

// headed returns a body with a number of bytes and a CRC ahead of it.
func headed(n, sum int, body string) string {
	return string([]byte{byte(n), byte(n >> 8), byte(n >> 16), byte(n >> 24), byte(sum), byte(sum >> 8), byte(sum >> 16), byte(sum >> 24)}) + body
}

// sumOf returns the CRC of a body.
func sumOf(body string) int {
	s := sealed(body)
	return int(s[4]) | int(s[5])<<8 | int(s[6])<<16 | int(s[7])<<24
}

// P13.2: a number of bytes that is too great or too small, with the CRC of as many bytes as there are.
func TestReadBytesCount(t *testing.T) {
	for _, s := range samples() {
		body := s[8:]
		for _, n := range []int{0, 1, 2, len(body) - 1, len(body) + 1, len(body) + 2, 2 * len(body), 255, 1 << 16, 1<<24 + len(body), 1<<31 - 1, 1 << 31, 1<<31 + len(body), 1<<32 - 2, 1<<32 - 1} {
			if n == len(body) {
				continue
			}
			expectCorrupt(t, "another number of bytes", headed(n, sumOf(body), body))
			if n < len(body) {
				expectCorrupt(t, "the CRC of the first bytes", headed(n, sumOf(body[:n]), body))
			}
			longer := body + strings.Repeat("\x00", 3)
			if n > len(body) && n <= len(longer) {
				expectCorrupt(t, "the CRC of some more bytes", headed(n, sumOf(longer[:n]), longer[:n]))
			}
		}
		expectCorrupt(t, "a CRC of 0", headed(len(body), 0, body))
		expectCorrupt(t, "the complement of the CRC", headed(len(body), ^sumOf(body), body))
	}
	expectCorrupt(t, "no bytes", sealed(""))
	expectCorrupt(t, "no record", sealed("\x00\x00"))
}

// P13.2: a number of records that is too great or too small, up to the greatest, with a CRC that is right for it.
func TestReadRecordsCount(t *testing.T) {
	one := recordByWords(api.Rec{Kind: api.RNoMan, ID: 9})
	for _, c := range []struct{ says, has int }{{0, 0}, {0, 1}, {1, 0}, {1, 2}, {2, 1}, {2, 3}, {3, 2}, {255, 256}, {256, 1}, {257, 1}, {256, 255}, {mostTx - 1, mostTx}, {mostTx, mostTx - 1}, {mostTx, mostTx + 1}, {mostTx + 1, mostTx + 1}, {mostTx + 1, mostTx}, {mostTx + 1, 1}, {1 << 15, 1 << 15}, {1 << 15, 3}, {1<<16 - 1, 1<<16 - 1}, {1<<16 - 1, 1}, {1<<16 - 1, 0}} {
		expectCorrupt(t, fmt.Sprintf("%d records, though %d are named", c.has, c.says), sealed(counted(c.says, strings.Repeat(one, c.has))))
	}
	for _, n := range []int{1, 2, mostTx - 1, mostTx} {
		if !expectWords(t, fmt.Sprint(n, " records"), sealed(counted(n, strings.Repeat(one, n)))) {
			t.Errorf("%d records are not read", n)
		}
	}
}

// P13.2: a number of runs that is too great or too small, up to the greatest, with a CRC that is right for it.
func TestReadRunsCount(t *testing.T) {
	for _, has := range []int{0, 1, 2, 15, 16, 17, 300} {
		for _, r := range []api.Rec{{Kind: api.RBox, ID: 1}, {Kind: api.RMan, ID: 1}, {Kind: api.RName, Name: "x"}} {
			r.Size, r.Runs = has*sectorBytes, alone(1, has)
			for _, says := range []int{0, 1, 2, 14, 15, 16, 17, 18, 255, 256, 257, 272, 1 << 15, 1<<16 - 16, 1<<16 - 1} {
				s := sealed(counted(1, numberedByWords(r, says)))
				if ok := expectWords(t, "runs", s); ok != (says == has && has <= mostRuns) {
					t.Errorf("%d runs, though %d are named: %v", has, says, ok)
				}
				behind := numberedByWords(r, says) + recordByWords(api.Rec{Kind: api.RNoBox, ID: 3})
				expectWords(t, "runs, and another record", sealed(counted(2, behind)))
			}
		}
	}
	zeros := api.Rec{Kind: api.RBox, ID: 1, Runs: make([]api.Run, 1<<16-1)}
	expectCorrupt(t, "runs of zeros", sealed(counted(1, recordByWords(zeros))))
}

// P13.2: records that are not valid, with a CRC that is right for them, alone and amid valid ones.
func TestReadWrong(t *testing.T) {
	ahead, behind := recordByWords(eachKind()[2]), recordByWords(eachKind()[3])
	for _, r := range []api.Rec{
		{Kind: api.RBox}, {Kind: api.RMan, ID: mostID + 1}, {Kind: api.RNoBox}, {Kind: api.RNoBox, ID: mostID + 1}, {Kind: api.RNoMan}, {Kind: api.RNoMan, ID: mostID + 1},
		{Kind: api.RName}, {Kind: api.RName, Name: text(1, 49)}, {Kind: api.RName, Name: text(1, 1<<16)}, {Kind: api.RName, Name: text(1, 1<<16+1)}, {Kind: api.RNoName}, {Kind: api.RNoName, Name: text(1, 49)}, {Kind: api.RNoName, Name: text(1, 1<<16+1)},
		blob(1, nil), blob(128, runs(0, 2)), blob(129, runs(0, 1)), blob(0, runs(0, 1)), blob(0, runs(0, 0)), blob(128, runs(0, 1, 3, 0)), blob(blobBytes+1, runs(0, most)), blob(blobBytes+128, runs(0, most+1)), blob(1<<31, runs(0, most)), blob(1<<32-1, nil), blob(1<<32-1, runs(0, 1)),
		blob(256, runs(most-1, 2)), blob(128, runs(most, 1)), blob(128, runs(1<<16-1, 1)), blob(128, runs(1, 1<<16-1)), blob(300, runs(0, 2, 1, 1)), blob(256, runs(4, 1, 4, 1)),
	} {
		expectCorrupt(t, "wrong: "+told(r), sealed(counted(1, recordByWords(r))))
		expectCorrupt(t, "wrong, amid others: "+told(r), sealed(counted(3, ahead+recordByWords(r)+behind)))
		expectCorrupt(t, "wrong, behind a transaction: "+told(r), sealed(counted(1, ahead))+sealed(counted(1, recordByWords(r))))
		expectCorrupt(t, "wrong, ahead of a transaction: "+told(r), sealed(counted(1, recordByWords(r)))+sealed(counted(1, ahead)))
	}
	for kind := range 256 {
		for _, rest := range []string{"", "\x01\x00\x00\x00", "\x01\x00\x00\x00\x00\x00\x00\x00\x00\x00", "\x01\x00\x00\x00x", "\x01\x00\x00\x00x\x00\x00\x00\x00\x00\x00"} {
			ok := expectWords(t, "a Kind", sealed(counted(1, string([]byte{byte(kind)})+rest)))
			if ok && (kind == 0 || kind > 6) {
				t.Errorf("the Kind %d is read", kind)
			}
		}
	}
}

// P13.5: Read of Tx of any records, and of several of these one behind the other; Tx of Read.
func TestRoundTrip(t *testing.T) {
	next := anyNumbers(21)
	for range 300 {
		s := ""
		for range next(5) {
			s += expectTx(t, "any", anyTx(next))
		}
		got, e := Read(s)
		again := ""
		for _, l := range got {
			tx, e := Tx(l...)
			expectErr(t, "Tx of Read", e, api.OK)
			again += tx
		}
		if e != api.OK || again != s {
			t.Errorf("Tx of Read: %q %d, not %q", again, e, s)
		}
	}
}

// Rule 4: what Read returns shares nothing, neither with what another Read returns nor within itself.
func TestReadMemory(t *testing.T) {
	s := strings.Join(samples(), "")
	want, e := Read(s)
	expectErr(t, "Read", e, api.OK)
	got, _ := Read(s)
	for i := range got {
		for k := range got[i] {
			_ = append(got[i][k].Runs, api.Run{At: -1, Len: -1}, api.Run{At: -2, Len: -2})
			for j := range got[i][k].Runs {
				got[i][k].Runs[j] = api.Run{At: -3 - i, Len: -3 - k}
			}
			expectRead(t, "behind changes", s, want, api.OK)
		}
	}
	for i, l := range got {
		for k, r := range l {
			if len(r.Runs) != len(want[i][k].Runs) || slices.ContainsFunc(r.Runs, func(o api.Run) bool { return o != api.Run{At: -3 - i, Len: -3 - k} }) {
				t.Errorf("the runs of a record share with others: %v", r.Runs)
			}
		}
		_ = append(l, api.Rec{Kind: 99}, api.Rec{Kind: 98})
		clear(l)
		for k := i + 1; k < len(got); k++ {
			if len(got[k]) != len(want[k]) || got[k][0].Kind != want[k][0].Kind {
				t.Errorf("the records of a transaction share with others: %v", got[k])
			}
		}
	}
}

// Rule 5: what is changed behind Tx changes nothing of its bytes.
func TestTxMemory(t *testing.T) {
	l := eachKind()
	want, _ := txByWords(l)
	s, _ := Tx(l...)
	for i := range l {
		clear(l[i].Runs)
	}
	clear(l)
	if s != want {
		t.Errorf("%q, not %q", s, want)
	}
}

func FuzzTx(f *testing.F) {
	f.Add(1, uint32(7), "", 300, 20, 1, 10, 2)
	f.Add(3, uint32(0), "name", 129, 5, 2, 0, 0)
	f.Add(6, uint32(0), "name", 0, 0, 0, 0, 0)
	f.Fuzz(func(t *testing.T, kind int, id uint32, name string, size, a, aLen, b, bLen int) {
		all := runs(a, aLen, b, bLen)
		for n := range 3 {
			r := api.Rec{Kind: api.RecKind(kind), ID: id, Name: name, Size: size, Runs: all[:n]}
			expectCheck(t, "fuzz", r)
			expectTx(t, "fuzz", []api.Rec{eachKind()[1], r, r})
		}
	})
}

func FuzzRead(f *testing.F) {
	f.Add("")
	for _, s := range samples() {
		f.Add(s)
		f.Add(s[8:])
	}
	f.Fuzz(func(t *testing.T, s string) {
		expectWords(t, "fuzz", s)
		expectWords(t, "fuzz, sealed", sealed(s))
		expectWords(t, "fuzz, a record", sealed(counted(1, s)))
		expectWords(t, "fuzz, behind a transaction", samples()[3]+sealed(counted(2, s)))
	})
}
