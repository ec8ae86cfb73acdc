package crc

import "math/bits"

func Turn(s string, at int, bits uint32) string {
	b := []byte(s)
	for i := range 32 {
		// Past the greatest index the sum wraps round below 0, where s has no bit either.
		k := at + i
		if bits>>i&1 == 1 && k >= 0 && k/8 < len(b) {
			b[k/8] ^= 1 << (k % 8)
		}
	}
	return string(b)
}

func Apart(a, b string) (int, bool) {
	if len(a) != len(b) {
		return 0, false
	}
	if a == b {
		return 0, true
	}
	first, last := 0, len(a)-1
	for a[first] == b[first] {
		first++
	}
	for a[last] == b[last] {
		last--
	}
	from := 8*first + bits.TrailingZeros8(a[first]^b[first])
	end := 8*last + bits.Len8(a[last]^b[last])
	return end - from, true
}
