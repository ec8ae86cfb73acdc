package box

import (
	"strings"

	"sheaf/api"
)

// Builder is an ID and the chunks that were added. It knows itself, because a copy of one that New returned is a
// Builder that New did not return.
type Builder struct {
	self *Builder
	counters
	id     uint32
	chunks []string
}

func New(id uint32, slots, bytes int) (*Builder, api.Errno) {
	if !validID(id) || slots < 1 || slots > api.MaxPart || bytes < 1 || bytes > api.MaxBoxBytes {
		return nil, api.ErrArg
	}
	b := &Builder{id: id, counters: counters{maxSlots: slots, maxBytes: bytes}}
	b.self = b
	return b, api.OK
}

// Add copies the chunk, so that no longer text is kept of which it is a piece.
func (b *Builder) Add(chunk string) (int, api.Errno) {
	if !b.made() {
		return 0, api.ErrNil
	}
	if e := b.count(len(chunk)); e != api.OK {
		return 0, e
	}
	b.chunks = append(b.chunks, strings.Clone(chunk))
	return b.slots - 1, api.OK
}

func (b *Builder) Len() int {
	if !b.made() {
		return 0
	}
	return b.slots
}

func (b *Builder) Chunk(slot int) (string, api.Errno) {
	if !b.made() {
		return "", api.ErrNil
	}
	if slot < 0 || slot >= b.slots {
		return "", api.ErrRange
	}
	return b.chunks[slot], api.OK
}

// Seal needs no more than a chunk: with what New and Add accept each box is valid.
func (b *Builder) Seal() (string, api.Errno) {
	if !b.made() {
		return "", api.ErrNil
	}
	if b.slots == 0 {
		return "", api.ErrNone
	}
	return Build(b.id, b.chunks...)
}

func (b *Builder) made() bool { return b != nil && b.self == b }
