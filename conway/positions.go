package conway

import (
	"slices"

	"parlour/api"
)

// Position is one to which moves lead in a canonical game, or the game itself.
// Moves are the places, in a list of positions, of what Left and of what Right
// can move to. A number is N/D in lowest terms; of any other game D is 0.
type Position struct {
	Moves [2][]int
	N, D  int64
}

// Positions are those of a text's canonical game, each behind all to which moves
// lead from it, so that the game itself is the last one. The faults are Canon's,
// but no game is too large to be told because its text would be long.
func Positions(s string) (l []Position, f api.Fault) {
	f = caught(func() {
		t := newTables()
		l = t.positions(t.read(s))
	})
	return l, f
}

func (t *tables) positions(g game) []Position {
	// A game is entered behind what can be moved to from it.
	all := slices.Sorted(slices.Values(t.reach(g)))
	names := newNamer(t)
	var l []Position
	for _, x := range all {
		var p Position
		if n := names.nature(x); n.kind == number {
			p.N, p.D = n.n, n.d
		}
		for player, moves := range t.moves[x] {
			for _, to := range moves {
				place, _ := slices.BinarySearch(all, to)
				p.Moves[player] = append(p.Moves[player], place)
			}
		}
		l = append(l, p)
	}
	return l
}
