package proof

import (
	"slices"

	"parlour/api"
	"parlour/moves"
)

// claim is that this player wins. What looks whether it is shown has no more
// than this in common with what looks for ways to show it, lest both be wrong
// together.
type claim struct {
	rules  api.Rules
	winner int
}

// isWon tells whether the winner has won there by the Outcome.
func (c claim) isWon(p api.Position) bool {
	o, _ := moves.Outcome(c.rules, p)
	return o == [...]int{api.First, api.Second}[c.winner]
}

// isShown tells whether the Cert shows that the winner wins from the position
// within so many moves (P16).
func (c claim) isShown(by api.Cert, p api.Position, within int) bool {
	if c.isWon(p) {
		return isBare(by) && len(by.Kids) == 0
	}
	if within == 0 {
		return false
	}
	all, _ := moves.Moves(c.rules, p)
	switch {
	case len(all) == 0:
		// It is not Open: a Kid for each of no moves shows nothing.
		return false
	case p.Turn == c.winner:
		return by.Some && slices.Contains(all, by.Move) && c.isShownBehind(by.Kids, p, []api.Move{by.Move}, within)
	}
	return isBare(by) && c.isShownBehind(by.Kids, p, all, within)
}

// isShownBehind tells whether there is a Kid for each of these moves, in order,
// which shows that the winner wins from the position behind it.
func (c claim) isShownBehind(kids []api.Cert, p api.Position, all []api.Move, within int) bool {
	if len(kids) != len(all) {
		return false
	}
	for i, m := range all {
		if !c.isShown(kids[i], moves.Behind(c.rules, p, m), within-1) {
			return false
		}
	}
	return true
}

// isBare tells whether the Cert names no move.
func isBare(c api.Cert) bool { return !c.Some && c.Move == api.Move{} }
