package sha

import "math/bits"

// rounds holds the constants K(0) to K(63): the first 32 bits of the fractional
// parts of the cube roots of the first 64 primes.
var rounds = [64]uint32{
	0x428A2F98, 0x71374491, 0xB5C0FBCF, 0xE9B5DBA5, 0x3956C25B, 0x59F111F1, 0x923F82A4, 0xAB1C5ED5,
	0xD807AA98, 0x12835B01, 0x243185BE, 0x550C7DC3, 0x72BE5D74, 0x80DEB1FE, 0x9BDC06A7, 0xC19BF174,
	0xE49B69C1, 0xEFBE4786, 0x0FC19DC6, 0x240CA1CC, 0x2DE92C6F, 0x4A7484AA, 0x5CB0A9DC, 0x76F988DA,
	0x983E5152, 0xA831C66D, 0xB00327C8, 0xBF597FC7, 0xC6E00BF3, 0xD5A79147, 0x06CA6351, 0x14292967,
	0x27B70A85, 0x2E1B2138, 0x4D2C6DFC, 0x53380D13, 0x650A7354, 0x766A0ABB, 0x81C2C92E, 0x92722C85,
	0xA2BFE8A1, 0xA81A664B, 0xC24B8B70, 0xC76C51A3, 0xD192E819, 0xD6990624, 0xF40E3585, 0x106AA070,
	0x19A4C116, 0x1E376C08, 0x2748774C, 0x34B0BCB5, 0x391C0CB3, 0x4ED8AA4A, 0x5B9CCA4F, 0x682E6FF3,
	0x748F82EE, 0x78A5636F, 0x84C87814, 0x8CC70208, 0x90BEFFFA, 0xA4506CEB, 0xBEF9A3F7, 0xC67178F2,
}

// processed names the words of the state as the document does.
func processed(state [8]uint32, block [blockLen]byte) [8]uint32 {
	words := expanded(block)
	a, b, c, d := state[0], state[1], state[2], state[3]
	e, f, g, h := state[4], state[5], state[6], state[7]
	for t := range 64 {
		t1 := h + upper1(e) + (e&f ^ ^e&g) + rounds[t] + words[t]
		t2 := upper0(a) + (a&b ^ a&c ^ b&c)
		h, g, f, e, d, c, b, a = g, f, e, d+t1, c, b, a, t1+t2
	}
	for i, n := range [8]uint32{a, b, c, d, e, f, g, h} {
		state[i] += n
	}
	return state
}

// expanded returns the words W(0) to W(63) of a block.
func expanded(block [blockLen]byte) [64]uint32 {
	var w [64]uint32
	for i, b := range block {
		w[i/4] = w[i/4]<<8 | uint32(b)
	}
	for t := 16; t < 64; t++ {
		w[t] = lower1(w[t-2]) + w[t-7] + lower0(w[t-15]) + w[t-16]
	}
	return w
}

func lower0(x uint32) uint32 { return rotated(x, 7) ^ rotated(x, 18) ^ x>>3 }
func lower1(x uint32) uint32 { return rotated(x, 17) ^ rotated(x, 19) ^ x>>10 }
func upper0(x uint32) uint32 { return rotated(x, 2) ^ rotated(x, 13) ^ rotated(x, 22) }
func upper1(x uint32) uint32 { return rotated(x, 6) ^ rotated(x, 11) ^ rotated(x, 25) }

func rotated(x uint32, n int) uint32 { return bits.RotateLeft32(x, -n) }
