package hook

import (
	"slices"

	"sheaf/api"
)

func Set(l ...api.Fp) []api.Fp {
	set := slices.Clone(l)
	slices.SortFunc(set, compare)
	return slices.Compact(set)
}

func Has(l []api.Fp, f api.Fp) bool { return slices.Contains(l, f) }

func Of(l []api.Fp, bits int) []api.Fp {
	isHook := hooksOf(bits)
	var hooks []api.Fp
	for _, f := range l {
		if isHook(f) {
			hooks = append(hooks, f)
		}
	}
	return Set(hooks...)
}

func Common(a, b []api.Fp) int { return len(Set(a...)) - len(Minus(a, b)) }

func Minus(a, b []api.Fp) []api.Fp {
	without := Set(b...)
	return slices.DeleteFunc(Set(a...), func(f api.Fp) bool {
		_, found := slices.BinarySearchFunc(without, f, compare)
		return found
	})
}
