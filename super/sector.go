package super

import (
	"strings"

	"sheaf/api"
	"sheaf/crc"
	"sheaf/pack"
)

// mark is what the sector of a superblock begins with.
const mark = "SHEAF001"

// sumAt is the index of the sum of all bytes ahead of it.
const sumAt = 124

func Put(s api.Super) (string, api.Errno) {
	if e := Check(s); e != api.OK {
		return "", e
	}
	var b strings.Builder
	for _, field := range fields(s) {
		b.WriteString(field())
	}
	return crc.Seal(pack.Fill(b.String(), sumAt)), api.OK
}

func Get(sector string) (api.Super, api.Errno) {
	r := sectorReader{pack.Read(sector)}
	s := r.superblock()
	// A superblock leaves no byte of its sector open. So what was passed over, what lacks, what follows, and a wrong sum
	// are all found by this comparison.
	if again, e := Put(s); e != api.OK || again != sector {
		return api.Super{}, api.ErrCorrupt
	}
	return s, api.OK
}

// fields returns what encodes the parts of a sector up to the last run. Places without a run need none: they are zero
// bytes, as all that follows them ahead of the sum.
func fields(s api.Super) []func() string {
	l := []func() string{
		func() string { return mark },
		func() string { return pack.U64(s.Seq) },
		func() string { return pack.U32(uint32(s.Sectors)) },
		func() string { return pack.U32(uint32(s.Journal)) },
		func() string { return pack.U32(uint32(s.Used)) },
		func() string { return pack.U32(uint32(s.Size)) },
		func() string { return pack.U16(uint16(len(s.Runs))) },
		func() string { return pack.U16(0) },
	}
	for _, r := range s.Runs {
		l = append(l, func() string { return pack.U16(uint16(r.At)) + pack.U16(uint16(r.Len)) })
	}
	return l
}

// sectorReader reads the parts of a sector one after another. What is not there is read as 0.
type sectorReader struct{ *pack.Reader }

func (r sectorReader) superblock() api.Super {
	var s api.Super
	r.Take(len(mark))
	s.Seq = r.U64()
	s.Sectors = r.number()
	s.Journal = r.number()
	s.Used = r.number()
	s.Size = r.number()
	s.Runs = r.runs()
	return s
}

func (r sectorReader) number() int { return int(r.U32()) }

// runs reads no more runs than a sector has places for, whatever number it names.
func (r sectorReader) runs() []api.Run {
	n := min(r.U16(), api.MaxRuns)
	r.U16()
	var l []api.Run
	for range n {
		at := int(r.U16())
		l = append(l, api.Run{At: at, Len: int(r.U16())})
	}
	return l
}
