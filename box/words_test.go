package box

import (
	"encoding/binary"
	"fmt"
	"hash/crc32"
	"math"
	"slices"
	"strings"
	"testing"

	"sheaf/api"
)

// The limits, as the document writes them.
const (
	mostID     = 1<<32 - 2
	mostChunks = 256
	mostChunk  = 4096
	mostBytes  = 65536
)

// text returns n bytes; another seed gives other ones throughout.
func text(seed, n int) string {
	b := make([]byte, n)
	next := uint32(seed)*7919 + 1
	for i := range b {
		next = next*1664525 + 1013904223
		b[i] = byte(next >> 13)
	}
	return string(b)
}

// texts returns chunks of these lengths, no two of which are equal if they are not short.
func texts(lens ...int) []string {
	var l []string
	for i, n := range lens {
		l = append(l, text(i, n))
	}
	return l
}

// times returns n chunks of a length.
func times(n, length int) []string { return texts(slices.Repeat([]int{length}, n)...) }

// lensOf returns the lengths of chunks.
func lensOf(l []string) []int {
	var lens []int
	for _, s := range l {
		lens = append(lens, len(s))
	}
	return lens
}

// validByWords adds up only lengths that a chunk may have: an int holds as many of them as there may be.
func validByWords(id uint32, lens []int) bool {
	sum := 0
	for _, n := range lens {
		if n < 1 || n > mostChunk {
			return false
		}
		sum += n
	}
	return id >= 1 && id <= mostID && len(lens) >= 1 && len(lens) <= mostChunks && sum <= mostBytes
}

func slotByWords(chunk string) api.Slot {
	return api.Slot{Len: len(chunk), Crc: crc32.ChecksumIEEE([]byte(chunk))}
}

func headOf(id uint32, chunks ...string) api.Head {
	h := api.Head{ID: id}
	for _, s := range chunks {
		h.Slots = append(h.Slots, slotByWords(s))
	}
	return h
}

// numberedHead returns a head, valid or not, with a number of chunks that need not be that of its slots, and a CRC that is
// right for it.
func numberedHead(h api.Head, number int) string {
	b := binary.LittleEndian.AppendUint32([]byte("SBOX"), h.ID)
	b = binary.LittleEndian.AppendUint16(b, uint16(number))
	for _, o := range h.Slots {
		b = binary.LittleEndian.AppendUint16(b, uint16(o.Len))
		b = binary.LittleEndian.AppendUint32(b, o.Crc)
	}
	return sealed(string(b))
}

func headBytesByWords(h api.Head) string { return numberedHead(h, len(h.Slots)) }

// sealed returns bytes with their CRC behind them.
func sealed(s string) string {
	return string(binary.LittleEndian.AppendUint32([]byte(s), crc32.ChecksumIEEE([]byte(s))))
}

func buildByWords(id uint32, chunks []string) (string, api.Errno) {
	if !validByWords(id, lensOf(chunks)) {
		return "", api.ErrArg
	}
	return headBytesByWords(headOf(id, chunks...)) + strings.Join(chunks, ""), api.OK
}

func headLens(h api.Head) []int {
	var lens []int
	for _, o := range h.Slots {
		lens = append(lens, o.Len)
	}
	return lens
}

func sizeByWords(h api.Head) int {
	if !validByWords(h.ID, headLens(h)) {
		return 0
	}
	n := 4 + 4 + 2 + 4
	for _, o := range h.Slots {
		n += 2 + 4 + o.Len
	}
	return n
}

// number returns the number of n bytes that stands at an index, the lowest byte first.
func number(s string, at, n int) uint32 {
	var k uint32
	for i := range n {
		k += uint32(s[at+i]) << (8 * i)
	}
	return k
}

// headByWords takes the numbers from where they stand.
func headByWords(s string) (api.Head, api.Errno) {
	if len(s) < 14 || s[:4] != "SBOX" {
		return api.Head{}, api.ErrCorrupt
	}
	h := api.Head{ID: number(s, 4, 4)}
	n := int(number(s, 8, 2))
	end := 10 + 6*n
	if len(s) < end+4 || number(s, end, 4) != crc32.ChecksumIEEE([]byte(s[:end])) {
		return api.Head{}, api.ErrCorrupt
	}
	for at := 10; at < end; at += 6 {
		h.Slots = append(h.Slots, api.Slot{Len: int(number(s, at, 2)), Crc: number(s, at+2, 4)})
	}
	if !validByWords(h.ID, headLens(h)) || len(s) != sizeByWords(h) {
		return api.Head{}, api.ErrCorrupt
	}
	return h, api.OK
}

func whereByWords(h api.Head, slot int) (int, int, api.Errno) {
	if !validByWords(h.ID, headLens(h)) {
		return 0, 0, api.ErrArg
	}
	at := 14 + 6*len(h.Slots)
	for i, o := range h.Slots {
		if i == slot {
			return at, o.Len, api.OK
		}
		at += o.Len
	}
	return 0, 0, api.ErrRange
}

func chunkByWords(s string, slot int) (string, api.Errno) {
	h, e := headByWords(s)
	if e != api.OK {
		return "", e
	}
	at, n, e := whereByWords(h, slot)
	if e != api.OK {
		return "", e
	}
	if crc32.ChecksumIEEE([]byte(s[at:at+n])) != h.Slots[slot].Crc {
		return "", api.ErrCorrupt
	}
	return s[at : at+n], api.OK
}

func chunksByWords(s string) ([]string, api.Errno) {
	h, e := headByWords(s)
	if e != api.OK {
		return nil, e
	}
	at := 14 + 6*len(h.Slots)
	var l []string
	for _, o := range h.Slots {
		l = append(l, s[at:at+o.Len])
		at += o.Len
		if slotByWords(l[len(l)-1]) != o {
			return nil, api.ErrCorrupt
		}
	}
	return l, api.OK
}

func sameByWords(a, b api.Head) bool {
	if a.ID != b.ID || len(a.Slots) != len(b.Slots) {
		return false
	}
	for i, o := range a.Slots {
		if o.Len != b.Slots[i].Len || o.Crc != b.Slots[i].Crc {
			return false
		}
	}
	return true
}

// plan is what a builder has, by the document's words.
type plan struct {
	id           uint32
	slots, bytes int
	chunks       []string
}

func (p *plan) add(chunk string) (int, api.Errno) {
	total := len(chunk)
	for _, s := range p.chunks {
		total += len(s)
	}
	switch {
	case len(chunk) < 1 || len(chunk) > mostChunk:
		return 0, api.ErrArg
	case len(p.chunks)+1 > p.slots || total > p.bytes:
		return 0, api.ErrFull
	}
	p.chunks = append(p.chunks, chunk)
	return len(p.chunks) - 1, api.OK
}

func (p *plan) chunk(slot int) (string, api.Errno) {
	if slot < 0 || slot >= len(p.chunks) {
		return "", api.ErrRange
	}
	return p.chunks[slot], api.OK
}

func (p *plan) seal() (string, api.Errno) {
	if len(p.chunks) == 0 {
		return "", api.ErrNone
	}
	return buildByWords(p.id, p.chunks)
}

// turned returns a text of which some bits from an index on are inverted; bits behind its end are none.
func turned(s string, at int, bits uint32) string {
	b := []byte(s)
	for i := range 32 {
		if k := at + i; bits>>i&1 == 1 && k < 8*len(b) {
			b[k/8] ^= 1 << (k % 8)
		}
	}
	return string(b)
}

// expectErr holds the error of a call.
func expectErr(t *testing.T, what string, e, want api.Errno) {
	t.Helper()
	if e != want {
		t.Errorf("%s: error %d, not %d", what, e, want)
	}
}

// cropped is a text without most of a long one.
func cropped(s string) string { return s[:min(len(s), 300)] }

// told is a head as a text, without most of a long one.
func told(h api.Head) string {
	return fmt.Sprintf("ID %d, %d slots: %v", h.ID, len(h.Slots), h.Slots[:min(len(h.Slots), 20)])
}

// listed is the lengths of chunks as a text, without most of many.
func listed(l []string) string {
	return fmt.Sprintf("%d chunks of %v bytes", len(l), lensOf(l[:min(len(l), 20)]))
}

// keptTexts does a call, and holds that the list that it is passed stays as it is, with what is behind its end.
func keptTexts(t *testing.T, what string, l []string, do func(l []string)) {
	t.Helper()
	given := append(slices.Clone(l), "behind")[:len(l)]
	do(given)
	if whole := given[:len(l)+1]; !slices.Equal(given, l) || whole[len(l)] != "behind" {
		t.Errorf("%s: the list was changed", what)
	}
}

// keptHead does likewise with the slots of a head.
func keptHead(t *testing.T, what string, h api.Head, do func(h api.Head)) {
	t.Helper()
	behind := api.Slot{Len: 77, Crc: 777}
	given := append(slices.Clone(h.Slots), behind)[:len(h.Slots)]
	do(api.Head{ID: h.ID, Slots: given})
	if whole := given[:len(h.Slots)+1]; !slices.Equal(given, h.Slots) || whole[len(h.Slots)] != behind {
		t.Errorf("%s: the slots were changed", what)
	}
}

// expectBuild holds Check and Build against the document's words, and what Build returned, if it is a box, against what it
// was built from; it returns the box.
func expectBuild(t *testing.T, id uint32, chunks []string) string {
	t.Helper()
	what := fmt.Sprintf("ID %d, %s", id, listed(chunks))
	want, wantE := buildByWords(id, chunks)
	keptTexts(t, what, chunks, func(l []string) {
		for range 2 {
			expectErr(t, "Check: "+what, Check(id, l...), wantE)
			if s, e := Build(id, l...); s != want || e != wantE {
				t.Fatalf("Build: %s: %q %d, not %q %d", what, cropped(s), e, cropped(want), wantE)
			}
		}
	})
	if wantE == api.OK {
		expectBytes(t, what, want)
		expectParts(t, what, want, id, chunks)
	}
	return want
}

// expectParts holds the head and the chunks of a box against what it was built from.
func expectParts(t *testing.T, what, s string, id uint32, chunks []string) {
	t.Helper()
	if h, e := Head(s); !sameByWords(h, headOf(id, chunks...)) || e != api.OK {
		t.Errorf("%s: its head is %s, %d", what, told(h), e)
	}
	if l, e := Chunks(s); !slices.Equal(l, chunks) || e != api.OK {
		t.Errorf("%s: it has %s, %d", what, listed(l), e)
	}
}

// expectBytes holds all that is read of a text against the document's words, and tells whether it has a correct head.
func expectBytes(t *testing.T, what, s string) bool {
	t.Helper()
	h, wantE := headByWords(s)
	for range 2 {
		got, e := Head(s)
		if !sameByWords(got, h) || e != wantE {
			t.Errorf("%s: Head of %q: %s, %d, not %s, %d", what, cropped(s), told(got), e, told(h), wantE)
		}
		// What is written into an answer is not to be seen in the next one.
		for i := range got.Slots {
			got.Slots[i] = api.Slot{Len: -1}
		}
	}
	for slot := -1; slot < len(h.Slots)+2; slot++ {
		// Of many slots some are enough here: Chunks goes through all of them.
		if slot < 12 || slot > len(h.Slots)-3 || slot%59 == 0 {
			expectChunk(t, what, s, slot)
		}
	}
	want, chunksE := chunksByWords(s)
	for range 2 {
		l, e := Chunks(s)
		if !slices.Equal(l, want) || e != chunksE {
			t.Errorf("%s: Chunks of %q: %s, %d, not %s, %d", what, cropped(s), listed(l), e, listed(want), chunksE)
		}
		for i := range l {
			l[i] = "another"
		}
	}
	if chunksE == api.OK {
		if again, e := Build(h.ID, want...); again != s || e != api.OK {
			t.Errorf("%s: Build returns %q %d for what is read of %q", what, cropped(again), e, cropped(s))
		}
	}
	return wantE == api.OK
}

// expectChunk holds Chunk of a slot against the document's words.
func expectChunk(t *testing.T, what, s string, slot int) {
	t.Helper()
	want, wantE := chunkByWords(s, slot)
	if got, e := Chunk(s, slot); got != want || e != wantE {
		t.Errorf("%s: Chunk %d of %q: %q %d, not %q %d", what, slot, cropped(s), cropped(got), e, cropped(want), wantE)
	}
}

// expectCorrupt holds that a text has no correct head, by the document's words, too, whatever is asked of it.
func expectCorrupt(t *testing.T, what, s string) {
	t.Helper()
	if expectBytes(t, what, s) {
		t.Fatalf("%s: a correct head, by the words: %q", what, cropped(s))
	}
	for _, slot := range edges() {
		if c, e := Chunk(s, slot); c != "" || e != api.ErrCorrupt {
			t.Errorf("%s: Chunk %d of %q: %q %d", what, slot, cropped(s), cropped(c), e)
		}
	}
}

// expectHead holds Size and Where of a head, valid or not, against the document's words.
func expectHead(t *testing.T, what string, h api.Head) {
	t.Helper()
	what += ": " + told(h)
	size := sizeByWords(h)
	keptHead(t, what, h, func(h api.Head) {
		if n := Size(h); n != size {
			t.Errorf("%s: Size %d, not %d", what, n, size)
		}
		for _, slot := range append(edges(), len(h.Slots)-2, len(h.Slots)-1, len(h.Slots), len(h.Slots)+1) {
			want, wantLen, wantE := whereByWords(h, slot)
			if at, n, e := Where(h, slot); at != want || n != wantLen || e != wantE {
				t.Errorf("%s: Where of slot %d: %d %d %d, not %d %d %d", what, slot, at, n, e, want, wantLen, wantE)
			}
		}
		if !Same(h, h) {
			t.Errorf("%s: it is not the same as itself", what)
		}
	})
}

// edges returns slots at which something changes in every box, and ones that none has.
func edges() []int {
	return []int{math.MinInt, math.MinInt + 1, math.MinInt32, -257, -256, -2, -1, 0, 1, 2, 254, 255, 256, 257, 1 << 16, math.MaxInt32, 1 << 32, 1<<32 + 1, math.MaxInt - 1, math.MaxInt}
}

// anyNumbers returns what makes numbers from 0 on, below what it is asked for; another seed gives other ones.
func anyNumbers(seed uint32) func(below int) int {
	return func(below int) int {
		seed = seed*1664525 + 1013904223
		return int(seed>>8) % below
	}
}

// anyChunks returns chunks of a box that is valid.
func anyChunks(next func(below int) int) []string {
	most := 1 + next(mostChunk)
	var l []string
	left := mostBytes
	for range 1 + next(1+next(mostChunks)) {
		n := 1 + next(most)
		if n > left {
			break
		}
		left -= n
		l = append(l, text(next(1000), n))
	}
	return l
}
