package extent

import (
	"slices"

	"sheaf/api"
)

func Plain(l []api.Run) []api.Run {
	var plain []api.Run
	for _, r := range ordered(l) {
		r = cropped(r)
		if r.Len == 0 {
			continue
		}
		// Cropping keeps the order, so that a run can touch none but the last one.
		if last := len(plain) - 1; last >= 0 && r.At <= end(plain[last]) {
			plain[last].Len = max(end(plain[last]), end(r)) - plain[last].At
			continue
		}
		plain = append(plain, r)
	}
	return plain
}

func Join(a, b []api.Run) []api.Run { return Plain(slices.Concat(a, b)) }

func Minus(a, b []api.Run) []api.Run { return Common(a, rest(b)) }

func Common(a, b []api.Run) []api.Run {
	p, q := Plain(a), Plain(b)
	var both []api.Run
search:
	if len(p) == 0 || len(q) == 0 {
		return both
	}
	if end(p[0]) > end(q[0]) {
		p, q = q, p
	}
	if at := max(p[0].At, q[0].At); at < end(p[0]) {
		both = append(both, api.Run{At: at, Len: end(p[0]) - at})
	}
	// Of the two runs this one ends first, so that it has nothing in common with what follows in the other list.
	p = p[1:]
	goto search
}

// rest returns, as a plain list, all sectors that a list doesn't have.
func rest(l []api.Run) []api.Run {
	var gaps []api.Run
	at := 0
	for _, r := range append(Plain(l), api.Run{At: api.MaxSectors}) {
		if at < r.At {
			gaps = append(gaps, api.Run{At: at, Len: r.At - at})
		}
		at = end(r)
	}
	return gaps
}
