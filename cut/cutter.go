package cut

import (
	"strings"

	"sheaf/api"
)

// Cutter is the bytes that are in no chunk yet, and how far the end of the next
// chunk was searched for in them. It knows itself, because a copy of one that New
// returned is a Cutter that New did not return. The chunks that it returns are copies.
type Cutter struct {
	self   *Cutter
	rest   strings.Builder
	search search
}

func New(c api.Conf) (*Cutter, api.Errno) {
	if !May(c) {
		return nil, api.ErrArg
	}
	x := &Cutter{search: newSearch(c)}
	x.self = x
	return x, api.OK
}

func (x *Cutter) Write(s string) []string {
	if !x.made() {
		return nil
	}
	x.rest.WriteString(s)
	rest := x.rest.String()
	var l []string
	for n := x.search.end(rest); n > 0; n = x.search.end(rest) {
		l = append(l, strings.Clone(rest[:n]))
		rest = rest[n:]
		x.search = x.search.after(n)
	}
	if len(l) > 0 {
		x.keep(rest)
	}
	return l
}

func (x *Cutter) End() []string {
	if x.Left() == 0 {
		return nil
	}
	rest := strings.Clone(x.rest.String())
	x.rest.Reset()
	x.search = newSearch(x.search.conf)
	return []string{rest}
}

func (x *Cutter) Left() int {
	if !x.made() {
		return 0
	}
	return x.rest.Len()
}

// keep copies what is left, so that the bytes of the chunks ahead of it go.
func (x *Cutter) keep(rest string) {
	x.rest.Reset()
	x.rest.WriteString(rest)
}

func (x *Cutter) made() bool { return x != nil && x.self == x }
