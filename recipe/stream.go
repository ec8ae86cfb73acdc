package recipe

import (
	"slices"

	"sheaf/api"
	"sheaf/weigh"
)

func Of(name, s string, mans ...uint32) (api.Recipe, api.Errno) {
	r := api.Recipe{Name: name, Size: len(s), Mans: mans}
	if e := Check(r); e != api.OK {
		return api.Recipe{}, e
	}
	re, im, e := weigh.Parts(weigh.Of(s))
	if e != api.OK {
		return api.Recipe{}, e
	}
	// No text that is short enough for a recipe has parts that are too great for one.
	r.Re, r.Im = re, im
	r.Mans = slices.Clone(mans)
	return r, api.OK
}

func Fits(r api.Recipe, s string) bool {
	return Check(r) == api.OK && len(s) == r.Size && weigh.Of(s) == Weight(r)
}

// Join gives up as soon as there are too many bytes or manifests: no recipe that follows makes them fewer. The parts of
// the weight may be too great in between, beyond those of any weight, too: they are added as ints.
func Join(name string, l ...api.Recipe) (api.Recipe, api.Errno) {
	j := api.Recipe{Name: name}
	for _, r := range l {
		if Check(r) != api.OK || j.Size+r.Size > api.MaxStream || len(j.Mans)+len(r.Mans) > api.MaxMans {
			return api.Recipe{}, api.ErrArg
		}
		re, im, e := weigh.Parts(weigh.Turn(Weight(r), j.Size))
		if e != api.OK {
			return api.Recipe{}, e
		}
		j.Re += re
		j.Im += im
		j.Size += r.Size
		j.Mans = append(j.Mans, r.Mans...)
	}
	if e := Check(j); e != api.OK {
		return api.Recipe{}, e
	}
	return j, api.OK
}
