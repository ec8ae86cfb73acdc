package manifest

import (
	"strings"

	"sheaf/api"
	"sheaf/crc"
	"sheaf/pack"
)

// magic begins the bytes of each manifest.
const magic = "MANI"

// How many bytes the parts of a manifest have.
const (
	headLen  = len(magic) + 4 + 2 // magic, ID, number of entries
	entryLen = 32 + 2 + 4 + 2     // Fp, Len, Box, Slot
	crcLen   = 4
)

func Put(m api.Manifest) (string, api.Errno) {
	if e := Check(m); e != api.OK {
		return "", e
	}
	var b strings.Builder
	b.WriteString(magic)
	b.WriteString(pack.U32(m.ID))
	b.WriteString(pack.U16(uint16(len(m.Entries))))
	for _, x := range m.Entries {
		b.Write(x.Fp[:])
		b.WriteString(pack.U16(uint16(x.Len)))
		b.WriteString(pack.U32(x.Box))
		b.WriteString(pack.U16(uint16(x.Slot)))
	}
	return crc.Seal(b.String()), api.OK
}

// Get holds the bytes against those of the manifest that it read: these are the only ones that it accepts.
func Get(s string) (api.Manifest, api.Errno) {
	m := manifestReader{pack.Read(s)}.manifest()
	if again, e := Put(m); e != api.OK || again != s {
		return api.Manifest{}, api.ErrCorrupt
	}
	return m, api.OK
}

// manifestReader reads what is not there as zero.
type manifestReader struct{ *pack.Reader }

// manifest reads no more entries than a manifest may have: where there are more, their number is not that of what was
// read.
func (r manifestReader) manifest() api.Manifest {
	r.Take(len(magic))
	m := api.Manifest{ID: r.U32()}
	for range min(r.U16(), api.MaxPart) {
		m.Entries = append(m.Entries, r.entry())
	}
	return m
}

func (r manifestReader) entry() api.Entry {
	var x api.Entry
	copy(x.Fp[:], r.Take(len(x.Fp)))
	x.Len = int(r.U16())
	x.Box = r.U32()
	x.Slot = int(r.U16())
	return x
}
