package box

import (
	"slices"
	"strings"

	"sheaf/api"
	"sheaf/crc"
	"sheaf/pack"
)

// magic begins each box.
const magic = "SBOX"

// Head holds what it read against the bytes that such a head has: these are the only ones that it accepts. A head that
// no box has is of size 0, and no head begins no bytes.
func Head(s string) (api.Head, api.Errno) {
	h := readHead(s)
	if Size(h) != len(s) || !strings.HasPrefix(s, headBytes(h)) {
		return api.Head{}, api.ErrCorrupt
	}
	return h, api.OK
}

func Where(h api.Head, slot int) (int, int, api.Errno) {
	if Size(h) == 0 {
		return 0, 0, api.ErrArg
	}
	if slot < 0 || slot >= len(h.Slots) {
		return 0, 0, api.ErrRange
	}
	at := headLen(len(h.Slots))
	for _, o := range h.Slots[:slot] {
		at += o.Len
	}
	return at, h.Slots[slot].Len, api.OK
}

func Size(h api.Head) int {
	c := boxCounters()
	for _, o := range h.Slots {
		if c.count(o.Len) != api.OK {
			return 0
		}
	}
	if !validID(h.ID) || c.slots == 0 {
		return 0
	}
	return headLen(c.slots) + c.bytes
}

func Same(a, b api.Head) bool { return a.ID == b.ID && slices.Equal(a.Slots, b.Slots) }

// headLen is how many bytes a head of so many slots has: magic, ID, their number, for each its length and CRC, and the
// CRC of all these.
func headLen(slots int) int { return len(magic) + 4 + 2 + slots*(2+4) + 4 }

func headBytes(h api.Head) string {
	var b strings.Builder
	b.WriteString(magic)
	b.WriteString(pack.U32(h.ID))
	b.WriteString(pack.U16(uint16(len(h.Slots))))
	for _, o := range h.Slots {
		b.WriteString(pack.U16(uint16(o.Len)))
		b.WriteString(pack.U32(o.Crc))
	}
	return crc.Seal(b.String())
}

// readHead reads no more slots than a box may have: where there are more, their number is not that of what was read.
// What is not there it reads as zero.
func readHead(s string) api.Head {
	r := pack.Read(s)
	r.Take(len(magic))
	h := api.Head{ID: r.U32()}
	for range min(r.U16(), api.MaxPart) {
		n := int(r.U16())
		h.Slots = append(h.Slots, api.Slot{Len: n, Crc: r.U32()})
	}
	return h
}
