package moves

import (
	"parlour/api"
	"parlour/rules"
)

// Next is Moves (P8), and of each of them the position behind it, as Apply
// tells it. Apply looks through all moves for each one; who makes all of them
// would do that over and over.
func Next(r api.Rules, p api.Position) ([]api.Move, []api.Position, api.Errno) {
	if err := rules.CheckPosition(r, p); err != api.OK {
		return nil, nil, err
	}
	l := list(r, p)
	next := make([]api.Position, len(l))
	for i, m := range l {
		next[i] = Behind(r, p, m)
	}
	return l, next, api.OK
}
