package table

import (
	"parlour/api"
	"parlour/moves"
	"parlour/rules"
)

// Best: P14.
func Best(r api.Rules, l []api.Entry, p api.Position) (api.Move, api.Errno) {
	if err := rules.Check(r); err != api.OK {
		return api.Move{}, err
	}
	// Of a position that is not of the rules or not Open there are no moves.
	all, next, _ := moves.Next(r, p)
	said := saidOf(l, append(next, p))
	for i, m := range all {
		if leads(said[p], said[next[i]]) {
			return m, api.OK
		}
	}
	return api.Move{}, api.ErrAbsent
}

// claim is what the first entry of a position says; one that is not made says
// nothing.
type claim struct {
	value, dist int
	made        bool
}

// saidOf is what the entries say of some positions. They are gone through
// once, however many there are.
func saidOf(l []api.Entry, asked []api.Position) map[api.Position]claim {
	said := map[api.Position]claim{}
	for _, p := range asked {
		said[p] = claim{}
	}
	for _, e := range l {
		if c, ok := said[e.Pos]; ok && !c.made {
			said[e.Pos] = claim{value: e.Value, dist: e.Dist, made: true}
		}
	}
	return said
}

// leads tells whether a move to what is said there is a best one here.
func leads(here, there claim) bool {
	switch here.value {
	case api.Win:
		return there.value == api.Loss && isOneLess(there.dist, here.dist)
	case api.Loss:
		return there.value == api.Win && isOneLess(there.dist, here.dist)
	case api.Even:
		return there.value == api.Even
	}
	return false
}

// isOneLess: entries may say anything, so numbers must not wrap round here.
func isOneLess(a, b int) bool { return a < b && a+1 == b }
