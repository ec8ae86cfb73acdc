package manifest

import (
	"cmp"
	"slices"

	"sheaf/api"
)

// Move is two places: from where, and to where.
type Move struct {
	From, To api.Place
}

func Places(m api.Manifest) []api.Place {
	l := make([]api.Place, 0, len(m.Entries))
	for _, x := range m.Entries {
		l = append(l, placeOf(x))
	}
	slices.SortFunc(l, func(a, b api.Place) int {
		return cmp.Or(cmp.Compare(a.Box, b.Box), cmp.Compare(a.Slot, b.Slot))
	})
	return slices.Compact(l)
}

// Turn looks up the place that an entry had, not the one that it has got: no entry is moved twice.
func Turn(m api.Manifest, l ...Move) (api.Manifest, int) {
	first := firstMoves(l)
	turned := api.Manifest{ID: m.ID}
	n := 0
	for _, x := range m.Entries {
		if to, ok := first[placeOf(x)]; ok {
			x.Box, x.Slot = to.Box, to.Slot
			n++
		}
		turned.Entries = append(turned.Entries, x)
	}
	return turned, n
}

// firstMoves returns to where the first move from each place leads. A map finds it without going through all moves for
// each entry: there may be many.
func firstMoves(l []Move) map[api.Place]api.Place {
	first := map[api.Place]api.Place{}
	for _, v := range l {
		if _, ok := first[v.From]; !ok {
			first[v.From] = v.To
		}
	}
	return first
}

func placeOf(x api.Entry) api.Place { return api.Place{Box: x.Box, Slot: x.Slot} }
