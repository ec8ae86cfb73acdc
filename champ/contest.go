package champ

import (
	"cmp"
	"slices"
)

// rank is a manifest with its score.
type rank struct {
	man   uint32
	score int
}

// compare is below 0 if r comes ahead of s.
func (r rank) compare(s rank) int {
	return cmp.Or(cmp.Compare(s.score, r.score), cmp.Compare(s.man, r.man))
}

// count adds n to the score of each manifest of a list that distinct returned.
func count(scores map[uint32]int, list []uint32, n int) {
	for _, man := range list {
		scores[man] += n
	}
}

// best returns the rank that comes first. If no score is above 0, it returns the score 0.
func best(scores map[uint32]int) rank {
	var first rank
	for man, score := range scores {
		if r := (rank{man, score}); r.compare(first) < 0 {
			first = r
		}
	}
	return first
}

// ranked returns all manifests that have a score, the best one first.
func ranked(scores map[uint32]int) []uint32 {
	var ranks []rank
	for man, score := range scores {
		ranks = append(ranks, rank{man, score})
	}
	slices.SortFunc(ranks, rank.compare)
	var mans []uint32
	for _, r := range ranks {
		mans = append(mans, r.man)
	}
	return mans
}

// contest is the lists that contain no champion yet, and the scores that these lists alone give: they are kept, not
// counted anew for each champion.
type contest struct {
	open   [][]uint32
	scores map[uint32]int
}

// newContest takes lists that distinct returned.
func newContest(lists [][]uint32) *contest {
	c := &contest{open: lists, scores: map[uint32]int{}}
	for _, list := range lists {
		count(c.scores, list, 1)
	}
	return c
}

// settle takes the lists that contain a champion out of the contest.
func (c *contest) settle(champion uint32) {
	var open [][]uint32
	for _, list := range c.open {
		if has(list, champion) {
			count(c.scores, list, -1)
		} else {
			open = append(open, list)
		}
	}
	c.open = open
}
