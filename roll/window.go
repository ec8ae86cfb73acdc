package roll

import "sheaf/api"

// Roll is the last bytes, and how many came: byte i of all is at index
// i % Window. Its zero value is a Roll for no bytes.
type Roll struct {
	last [api.Window]byte
	n    int
}

func New() *Roll { return &Roll{} }

func (r *Roll) Push(b byte) uint32 {
	if r == nil {
		return 0
	}
	r.add(b)
	return r.Sum()
}

func (r *Roll) Sum() uint32 {
	if r == nil {
		return 0
	}
	var h uint64
	for i := range min(r.n, api.Window) {
		h += term(r.last[(r.n-1-i)%api.Window], i)
	}
	return uint32(h % modulus)
}

func (r *Roll) Len() int {
	if r == nil {
		return 0
	}
	return r.n
}

func (r *Roll) Reset() {
	if r != nil {
		*r = Roll{}
	}
}

func (r *Roll) add(b byte) {
	r.last[r.n%api.Window] = b
	r.n++
}
