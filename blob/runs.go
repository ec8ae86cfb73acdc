package blob

import (
	"iter"
	"slices"

	"sheaf/api"
	"sheaf/extent"
	"sheaf/super"
)

func Fit(runs []api.Run, sectors, size int) bool {
	return size >= 0 && len(runs) <= api.MaxRuns &&
		extent.May(runs, 0, min(sectors, api.MaxSectors)) &&
		extent.Count(runs) == super.Need(size)
}

func Each(runs []api.Run) iter.Seq[int] {
	// The iterator may be gone through later, when the caller has changed the list.
	var kept []api.Run
	if extent.May(runs, 0, api.MaxSectors) {
		kept = slices.Clone(runs)
	}
	return func(yield func(sector int) bool) {
		for _, r := range kept {
			for k := range r.Len {
				if !yield(r.At + k) {
					return
				}
			}
		}
	}
}
