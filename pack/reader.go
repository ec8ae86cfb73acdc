package pack

import "sheaf/api"

// Reader keeps its first error, so that a caller may read all its parts first
// and ask once, at the end, whether they were there.
type Reader struct {
	left string
	err  api.Errno
}

func Read(s string) *Reader { return &Reader{left: s} }

func (r *Reader) U8() uint8   { return uint8(r.number(1)) }
func (r *Reader) U16() uint16 { return uint16(r.number(2)) }
func (r *Reader) U32() uint32 { return uint32(r.number(4)) }
func (r *Reader) U64() uint64 { return r.number(8) }

func (r *Reader) Take(n int) string {
	switch {
	case r == nil || r.err != api.OK:
		return ""
	case n < 0:
		r.fail(api.ErrArg)
		return ""
	case n > len(r.left):
		r.fail(api.ErrShort)
		return ""
	}
	s := r.left[:n]
	r.left = r.left[n:]
	return s
}

func (r *Reader) Text() string { return r.Take(r.length(api.MaxText)) }

func (r *Reader) List() []string {
	var l []string
texts:
	for range r.length(api.MaxList) {
		s := r.Text()
		switch r.err {
		case api.OK:
			l = append(l, s)
			continue texts
		}
		// The texts before the error are dropped: a list is read whole or not at all.
		return nil
	}
	return l
}

func (r *Reader) Left() int {
	if r == nil {
		return 0
	}
	return len(r.left)
}

func (r *Reader) Err() api.Errno {
	if r == nil {
		return api.ErrNil
	}
	return r.err
}

func (r *Reader) End() api.Errno {
	if r.Err() == api.OK && r.Left() > 0 {
		return api.ErrForm
	}
	return r.Err()
}

func (r *Reader) number(size int) uint64 {
	s := r.Take(size)
	var n uint64
	for i := range len(s) {
		n |= uint64(s[i]) << (8 * i)
	}
	return n
}

// length refuses what is too great before it is held against what is left: that
// is ErrLong, whatever follows.
func (r *Reader) length(most uint32) int {
	n := r.U32()
	if n > most {
		r.fail(api.ErrLong)
		return 0
	}
	return int(n)
}

// fail drops what is left, so that no later call reads on behind the error.
func (r *Reader) fail(e api.Errno) { r.left, r.err = "", e }
