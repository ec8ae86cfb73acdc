package crc

// zeros holds what the steps of some zero bytes make of each bit of a number.
// That is enough to know what they make of any number: steps keep exclusive or.
type zeros [32]uint32

func zeroByte() zeros {
	var z zeros
	for i := range 32 {
		z[i] = 1 << i
		for range 8 {
			z[i] = step(z[i])
		}
	}
	return z
}

func (z zeros) after(n uint32) uint32 {
	var out uint32
	for i := range 32 {
		if n>>i&1 == 1 {
			out ^= z[i]
		}
	}
	return out
}

// twice returns the same for twice as many zero bytes.
func (z zeros) twice() zeros {
	var out zeros
	for i := range 32 {
		out[i] = z.after(z[i])
	}
	return out
}
