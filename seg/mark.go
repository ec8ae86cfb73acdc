package seg

import (
	"sheaf/api"
	"sheaf/hook"
)

// endsOf makes what decides, for settings that can divide, whether a segment ends with its n-th fingerprint, if it didn't end before that.
func endsOf(c api.Conf) func(n int, f api.Fp) bool {
	isMark := marksOf(c)
	return func(n int, f api.Fp) bool {
		return n >= c.SegMax || n >= c.SegMin && isMark(f)
	}
}

// marksOf makes what decides which fingerprints are marks for settings that can divide.
func marksOf(c api.Conf) func(api.Fp) bool {
	div := uint32(c.SegDiv)
	return func(f api.Fp) bool { return hook.Num(f)%div == 0 }
}
