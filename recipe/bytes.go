package recipe

import (
	"strings"

	"sheaf/api"
	"sheaf/crc"
	"sheaf/pack"
)

// magic begins the bytes of each recipe.
const magic = "RECP"

// How many bytes the parts of a recipe have beside its name.
const (
	headLen = len(magic) + 4 + 4 + 4 + 4 // magic, Size, Re, Im, length of Name
	manyLen = 2
	manLen  = 4
	crcLen  = 4
)

func Size(name string, mans int) int {
	if name == "" || len(name) > api.MaxName || mans < 0 || mans > api.MaxMans {
		return 0
	}
	return headLen + len(name) + manyLen + mans*manLen + crcLen
}

func Put(r api.Recipe) (string, api.Errno) {
	if e := Check(r); e != api.OK {
		return "", e
	}
	var b strings.Builder
	b.WriteString(magic)
	b.WriteString(pack.U32(uint32(r.Size)))
	b.WriteString(pack.U32(uint32(r.Re)))
	b.WriteString(pack.U32(uint32(r.Im)))
	b.WriteString(pack.Text(r.Name))
	b.WriteString(pack.U16(uint16(len(r.Mans))))
	for _, id := range r.Mans {
		b.WriteString(pack.U32(id))
	}
	return crc.Seal(b.String()), api.OK
}

// Get holds the bytes against those of the recipe that it read: these are the only ones that it accepts.
func Get(s string) (api.Recipe, api.Errno) {
	r := read(pack.Read(s))
	if again, e := Put(r); e != api.OK || again != s {
		return api.Recipe{}, api.ErrCorrupt
	}
	return r, api.OK
}

// read takes what is not there as zero. It reads no more manifests than a recipe may have: where there are more, their
// number is not that of what was read.
func read(p *pack.Reader) api.Recipe {
	p.Take(len(magic))
	var r api.Recipe
	r.Size = int(p.U32())
	r.Re = signed(p.U32())
	r.Im = signed(p.U32())
	r.Name = p.Text()
	for range min(p.U16(), api.MaxMans) {
		r.Mans = append(r.Mans, p.U32())
	}
	return r
}

// signed returns the number from -2^31 to 2^31 - 1 that is n modulo 2^32.
func signed(n uint32) int { return int(int32(n)) }
