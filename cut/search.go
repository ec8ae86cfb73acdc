package cut

import (
	"sheaf/api"
	"sheaf/roll"
)

// search is how far the end of a text's first chunk was searched for. It goes on
// from there when the text has got longer: a text that comes in many pieces isn't
// searched from its start for each of them.
type search struct {
	conf   api.Conf
	n      int    // the last place that was looked at, or Min - 1
	fresh  int    // the places from Window on below this one needn't be looked at
	hash   uint32 // of place n, if that is not below fresh
	backup int    // the last backup place up to n, or 0
}

// newSearch begins right below Min, whatever the bytes up to there are.
func newSearch(c api.Conf) search {
	return search{conf: c, n: c.Min - 1, fresh: max(c.Min, api.Window)}
}

// after is the search for the chunk behind one of n bytes. The places that were looked
// at behind a backup place, where a chunk ends, are of neither kind; they stay so for
// the next chunk where a whole window is behind its start. Without that each of many
// short chunks would be searched for up to Max.
func (f *search) after(n int) search {
	next := newSearch(f.conf)
	next.fresh = max(next.fresh, f.n-n+1)
	return next
}

// end returns the length of the first chunk of s, or 0 if more bytes are needed.
// After that s may only have got longer.
func (f *search) end(s string) int {
	most := min(len(s), f.conf.Max)
next:
	if f.n >= api.Window-1 {
		f.n = max(f.n, f.fresh-1)
	}
	if f.n >= most {
		goto none
	}
	f.step(s)
	if isLast(f.hash, f.conf.Main) {
		return f.n
	}
	if isLast(f.hash, f.conf.Backup) {
		f.backup = f.n
	}
	goto next
none:
	if len(s) < f.conf.Max {
		return 0
	}
	if f.backup > 0 {
		return f.backup
	}
	return f.conf.Max
}

// step goes to the next place. It slides where there is the hash of a whole window
// to slide from, which is quicker.
func (f *search) step(s string) {
	if f.n < f.fresh {
		f.hash = roll.Sum(s[:f.n+1])
	} else {
		f.hash, _ = roll.Slide(f.hash, s[f.n-api.Window], s[f.n])
	}
	f.n++
}

func isLast(hash uint32, div int) bool { return int(hash)%div == div-1 }
