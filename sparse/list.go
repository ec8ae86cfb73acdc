package sparse

import (
	"slices"

	"sheaf/api"
)

// list is the manifests of a hook, the newest first. It stands in a ring, between the lists whose last use is the next
// older and the next newer one, so that a use takes as long in a great index as in a small one.
type list struct {
	hook         api.Fp
	mans         []uint32
	older, newer *list
}

// newList returns an empty list that is alone in its ring.
func newList(h api.Fp) *list {
	l := &list{hook: h}
	l.older, l.newer = l, l
	return l
}

// leave closes the ring behind l, which keeps its own neighbours.
func (l *list) leave() { l.older.newer, l.newer.older = l.newer, l.older }

// enter makes l, which is in no ring with others, the newest list of the ring with these ends.
func (l *list) enter(ends *list) {
	l.older, l.newer = ends.older, ends
	l.older.newer, l.newer.older = l, l
}

// first returns the list with man as its first one, and of the others as many as there may be.
func first(man uint32, mans []uint32, most int) []uint32 {
	mans = slices.Insert(without(mans, man), 0, man)
	return mans[:min(len(mans), most)]
}

// without takes man out of the list itself.
func without(mans []uint32, man uint32) []uint32 {
	return slices.DeleteFunc(mans, func(m uint32) bool { return m == man })
}
