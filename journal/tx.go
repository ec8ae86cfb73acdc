package journal

import (
	"strings"

	"sheaf/api"
	"sheaf/crc"
	"sheaf/pack"
)

func Tx(l ...api.Rec) (string, api.Errno) {
	if len(l) < 1 || len(l) > api.MaxTx {
		return "", api.ErrMany
	}
	var b strings.Builder
	b.WriteString(pack.U16(uint16(len(l))))
	for _, r := range l {
		if e := Check(r); e != api.OK {
			return "", e
		}
		b.WriteString(recordBytes(r))
	}
	body := b.String()
	return pack.U32(uint32(len(body))) + pack.U32(crc.Sum(body)) + body, api.OK
}

func Read(s string) ([][]api.Rec, api.Errno) {
	var all [][]api.Rec
	r := recordReader{pack.Read(s)}
next:
	if r.Left() == 0 {
		return all, api.OK
	}
	l, ok := r.transaction()
	if !ok {
		return nil, api.ErrCorrupt
	}
	all = append(all, l)
	goto next
}

// recordBytes encodes a record that is valid.
func recordBytes(r api.Rec) string {
	f := fieldsOf(r.Kind)
	s := pack.U8(uint8(r.Kind))
	if f.id {
		s += pack.U32(r.ID)
	}
	if f.name {
		s += pack.Text(r.Name)
	}
	if f.blob {
		s += pack.U32(uint32(r.Size)) + runsBytes(r.Runs)
	}
	return s
}

func runsBytes(runs []api.Run) string {
	s := pack.U16(uint16(len(runs)))
	for _, r := range runs {
		s += pack.U16(uint16(r.At)) + pack.U16(uint16(r.Len))
	}
	return s
}

// recordReader reads the fields of records one after another. What is not there is read as zero, which is found out
// behind all that is read: by Check, or by End.
type recordReader struct{ *pack.Reader }

func (r recordReader) transaction() ([]api.Rec, bool) {
	n := r.U32()
	sum := r.U32()
	body := r.Take(int(n))
	if r.Err() != api.OK || crc.Sum(body) != sum {
		return nil, false
	}
	return recordReader{pack.Read(body)}.records()
}

// records reads what is left as the body of a transaction.
func (r recordReader) records() ([]api.Rec, bool) {
	n := r.U16()
	if n < 1 || n > api.MaxTx {
		return nil, false
	}
	var l []api.Rec
	for range n {
		rec := r.record()
		if Check(rec) != api.OK {
			return nil, false
		}
		l = append(l, rec)
	}
	if r.End() != api.OK {
		return nil, false
	}
	return l, true
}

func (r recordReader) record() api.Rec {
	rec := api.Rec{Kind: api.RecKind(r.U8())}
	f := fieldsOf(rec.Kind)
	if f.id {
		rec.ID = r.U32()
	}
	if f.name {
		rec.Name = r.Text()
	}
	if f.blob {
		rec.Size = int(r.U32())
		rec.Runs = r.runs()
	}
	return rec
}

// runs reads at most one run too many: this is enough for Check to refuse them.
func (r recordReader) runs() []api.Run {
	var l []api.Run
	for range min(r.U16(), api.MaxRuns+1) {
		at := int(r.U16())
		l = append(l, api.Run{At: at, Len: int(r.U16())})
	}
	return l
}
