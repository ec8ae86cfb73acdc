package hook

import (
	"bytes"
	"math/bits"

	"sheaf/api"
)

// allBits is how many bits a fingerprint has.
const allBits = 256

func Less(a, b api.Fp) bool { return compare(a, b) < 0 }

func Zeros(f api.Fp) int {
	if f == (api.Fp{}) {
		return allBits
	}
	i := 0
	for f[i] == 0 {
		i++
	}
	return 8*i + bits.LeadingZeros8(f[i])
}

func Is(f api.Fp, bits int) bool { return hooksOf(bits)(f) }

// hooksOf makes what decides which fingerprints are hooks for a number of bits.
func hooksOf(bits int) func(api.Fp) bool {
	// A number below 0 needs no bound: as 0 does, it takes them all.
	bits = min(bits, allBits)
	return func(f api.Fp) bool { return Zeros(f) >= bits }
}

func compare(a, b api.Fp) int { return bytes.Compare(a[:], b[:]) }
