package weigh

import (
	"strconv"
	"strings"

	"sheaf/api"
)

// invalidText is what Text returns of what is no weight.
const invalidText = "?"

func Text(z complex128) string {
	re, im, e := Parts(z)
	if e != api.OK {
		return invalidText
	}
	plus := ""
	if im >= 0 {
		plus = "+"
	}
	return strconv.Itoa(re) + plus + strconv.Itoa(im) + "i"
}

// Parse reads forms that no text of a weight has, such as 01+1. But a weight has
// one text only, so it is enough to hold that against what was read.
func Parse(s string) (complex128, api.Errno) {
	parts := strings.TrimSuffix(s, "i")
	k := strings.LastIndexAny(parts, "+-")
	if k < 0 {
		return 0, api.ErrForm
	}
	re, errRe := strconv.Atoi(parts[:k])
	im, errIm := strconv.Atoi(parts[k:])
	if errRe != nil || errIm != nil {
		return 0, api.ErrForm
	}
	z, e := Make(re, im)
	if e != api.OK || Text(z) != s {
		return 0, api.ErrForm
	}
	return z, api.OK
}
