package house

import (
	"slices"

	"parlour/api"
	"parlour/board"
)

// What time either player may have (P31).
const (
	minTime = 1
	maxTime = 1000000
)

func isFrom(least, n, most int) bool { return least <= n && n <= most }

// copied is what a house may keep of rules that are right: nothing of it is the
// caller's.
func copied(r api.Rules) api.Rules {
	r.Start, _ = board.Turned(r.Start, 0)
	r.Pieces = slices.Clone(r.Pieces)
	for i := range r.Pieces {
		r.Pieces[i].Ways = slices.Clone(r.Pieces[i].Ways)
	}
	return r
}
