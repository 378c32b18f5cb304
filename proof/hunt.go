package proof

import (
	"parlour/api"
	"parlour/moves"
)

// maxKnown is of how many positions something is known at the same time.
const maxKnown = 1 << 18

// hunt looks for the ways in which the winner wins. What he needs it counts in
// moves of his own: a win is there already or comes with one of these. For by a
// move of the other one the winner gets no line, comes to no last row and takes
// nothing; and if anyone has nowhere to go behind it, that is the winner himself.
type hunt struct {
	claim
	known map[api.Position]finding
	room  int
}

// finding is how many moves the winner needs in a position that is Open or,
// unless it is settled, that he needs so many at least.
type finding struct {
	need    int
	settled bool
}

func newHunt(c claim) *hunt {
	return &hunt{claim: c, known: map[api.Position]finding{}, room: maxKnown}
}

// ownMoves is how many of so many moves are of the player whose turn it is.
func ownMoves(depth int) int { return (depth + 1) / 2 }

// need is how many moves the winner needs from the position, whatever the other
// one does; if he needs more than most, or can't win, some number above most.
func (h *hunt) need(p api.Position, most int) int {
	if h.isWon(p) {
		return 0
	}
	if most == 0 {
		return 1
	}
	f := h.known[p]
	if f.settled || f.need > most {
		return f.need
	}
	all, _ := moves.Moves(h.rules, p)
	switch {
	case len(all) == 0:
		return most + 1
	case p.Turn == h.winner:
		f = h.needOfOne(p, all, max(1, f.need), most)
	default:
		f = h.needOfAll(p, all, most)
	}
	h.keep(p, f)
	return f.need
}

// needOfOne: the winner makes the move that wins soonest. So the small numbers
// are tried first: they take the least time to try.
func (h *hunt) needOfOne(p api.Position, all []api.Move, least, most int) finding {
	for n := least; n <= most; n++ {
		for _, m := range all {
			if h.need(moves.Behind(h.rules, p, m), n-1) < n {
				return finding{n, true}
			}
		}
	}
	return finding{most + 1, false}
}

// needOfAll: the other one makes the move against which it takes longest.
func (h *hunt) needOfAll(p api.Position, all []api.Move, most int) finding {
	longest := 0
	for _, m := range all {
		longest = max(longest, h.need(moves.Behind(h.rules, p, m), most))
		if longest > most {
			return finding{most + 1, false}
		}
	}
	return finding{longest, true}
}

// keep begins anew when there is no more room: what is forgotten is found again.
func (h *hunt) keep(p api.Position, f finding) {
	if len(h.known) >= h.room {
		clear(h.known)
	}
	h.known[p] = f
}
