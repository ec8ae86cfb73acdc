package champ

import (
	"slices"

	"sheaf/api"
	"sheaf/hook"
)

// listsOf returns the distinct manifests that look returns for each hook. It asks for all hooks before anything is made
// of their lists, so that no call leaves one out.
func listsOf(hooks []api.Fp, look func(h api.Fp) []uint32) [][]uint32 {
	if look == nil {
		return nil
	}
	var lists [][]uint32
	for _, h := range hook.Set(hooks...) {
		lists = append(lists, distinct(ask(look, h)))
	}
	return lists
}

// ask takes a look that panics like one that returns nothing, because no call may panic, whatever it is given.
func ask(look func(h api.Fp) []uint32, h api.Fp) []uint32 {
	defer func() { _ = recover() }()
	return look(h)
}

// distinct returns the manifests of a list in order, each once. They are a copy, because a look may return the same
// memory for every hook.
func distinct(list []uint32) []uint32 {
	mans := slices.Clone(list)
	slices.Sort(mans)
	return slices.Compact(mans)
}

// has takes a list that distinct returned.
func has(list []uint32, man uint32) bool {
	_, found := slices.BinarySearch(list, man)
	return found
}
