package seg

import "sheaf/api"

// Parter is how many fingerprints are in no segment yet: which ones they are decides
// nothing any more. It knows itself, because a copy of one that New returned is a
// Parter that New did not return.
type Parter struct {
	self *Parter
	ends func(n int, f api.Fp) bool
	n    int
}

func New(c api.Conf) (*Parter, api.Errno) {
	if !May(c) {
		return nil, api.ErrArg
	}
	x := &Parter{ends: endsOf(c)}
	x.self = x
	return x, api.OK
}

func (x *Parter) Put(f api.Fp) bool {
	if !x.made() {
		return false
	}
	x.n++
	if !x.ends(x.n, f) {
		return false
	}
	x.n = 0
	return true
}

func (x *Parter) Len() int {
	if !x.made() {
		return 0
	}
	return x.n
}

func (x *Parter) Reset() {
	if x.made() {
		x.n = 0
	}
}

func (x *Parter) made() bool { return x != nil && x.self == x }
