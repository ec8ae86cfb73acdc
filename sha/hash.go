package sha

import "sheaf/api"

// text is what the hash of a text needs of it: the state after its whole blocks,
// the bytes behind them, and its length. Of block the first n % blockLen bytes count.
type text struct {
	state [8]uint32
	block [blockLen]byte
	n     int
}

func emptyText() text { return text{state: Start()} }

// more copies what it is given, so that no text is kept because of a few bytes of it.
func (t text) more(s string) text {
	for len(s) > 0 {
		k := copy(t.block[t.n%blockLen:], s)
		t.n += k
		s = s[k:]
		if t.n%blockLen == 0 {
			t.state = processed(t.state, t.block)
		}
	}
	return t
}

func (t text) sum() api.Fp {
	end, _ := Pad(t.n)
	state := t.more(end).state
	var f api.Fp
	for i := range f {
		f[i] = byte(state[i/4] >> (24 - 8*(i%4)))
	}
	return f
}

// Hash is what was written so far. It knows itself, because a copy of one that
// New returned is a Hash that New did not return.
type Hash struct {
	self    *Hash
	written text
	take    func(s string)
}

func New() *Hash {
	h := &Hash{written: emptyText()}
	h.self = h
	h.take = func(s string) { h.written = h.written.more(s) }
	return h
}

func (h *Hash) Write(s string) api.Errno {
	if !h.made() {
		return api.ErrNil
	}
	h.take(s)
	return api.OK
}

func (h *Hash) Len() int {
	if !h.made() {
		return 0
	}
	return h.written.n
}

func (h *Hash) Sum() api.Fp {
	if !h.made() {
		return api.Fp{}
	}
	return h.written.sum()
}

func (h *Hash) made() bool { return h != nil && h.self == h }
