package tourney

import (
	"cmp"
	"slices"

	"parlour/api"
)

func ranksOf(n int, l []api.Result) []api.Rank {
	ranks := make([]api.Rank, n)
	for i := range ranks {
		ranks[i].Player = i
	}
	for _, r := range l {
		ranks[r.A].Points += r.Halves
		ranks[r.B].Points += 2 - r.Halves
	}
	for _, r := range l {
		ranks[r.A].Others += ranks[r.B].Points
		ranks[r.B].Others += ranks[r.A].Points
	}
	slices.SortFunc(ranks, order)
	return ranks
}

// order is below 0 if a stands ahead of b.
func order(a, b api.Rank) int {
	return cmp.Or(
		cmp.Compare(b.Points, a.Points),
		cmp.Compare(b.Others, a.Others),
		cmp.Compare(a.Player, b.Player),
	)
}
