package box

import "sheaf/api"

// counters count chunks and their bytes, up to as many of each as there may be.
type counters struct {
	slots, bytes       int
	maxSlots, maxBytes int
}

// boxCounters count up to what any box may have.
func boxCounters() counters { return counters{maxSlots: api.MaxPart, maxBytes: api.MaxBoxBytes} }

// count counts one more chunk of n bytes, or tells why there can't be one. It never adds up what is not bounded.
func (c *counters) count(n int) api.Errno {
	if n < 1 || n > api.MaxChunk {
		return api.ErrArg
	}
	if c.slots == c.maxSlots || n > c.maxBytes-c.bytes {
		return api.ErrFull
	}
	c.slots++
	c.bytes += n
	return api.OK
}
