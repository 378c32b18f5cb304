package conway

import "slices"

// made is a game that was put together of canonical ones. Some of its own moves
// may be dominated or reversible.
type made struct {
	*tables
	sides
	known map[claim]verdict
}

// claim is that what was made is for the player at least as good as a game.
type claim struct {
	player int
	than   game
}

// canonical is the game that is equal to the one with these moves.
func (t *tables) canonical(s sides) game {
	m := &made{tables: t, sides: s, known: map[claim]verdict{}}
	var kept sides
	for player := range kept {
		kept[player] = t.undominated(player, m.irreversible(player))
	}
	return t.enter(kept)
}

// bears is isAsGood with what was made, which is not in the tables, as the first
// of the two games.
func (m *made) bears(c claim) bool {
	if known := m.known[c]; known != open {
		return known == yes
	}
	other := 1 - c.player
	lost := slices.ContainsFunc(m.sides[other], func(to game) bool { return m.isAsGood(c.player, c.than, to) }) ||
		slices.ContainsFunc(m.moves[c.than][c.player], func(to game) bool { return m.bears(claim{other, to}) })
	m.known[c] = verdictOf(!lost)
	return !lost
}

// irreversible are moves of the player that are worth the same as his own: those
// that he has behind the answer take the place of one that is reversible, and
// they may be so, too.
func (m *made) irreversible(player int) []game {
	todo := slices.Clone(m.sides[player])
	met := map[game]struct{}{}
	var kept []game
	for i := 0; i < len(todo); i++ {
		if _, known := met[todo[i]]; known {
			continue
		}
		met[todo[i]] = struct{}{}
		answers := m.moves[todo[i]][1-player]
		k := slices.IndexFunc(answers, func(to game) bool { return m.bears(claim{player, to}) })
		if k < 0 {
			kept = append(kept, todo[i])
		} else {
			todo = append(todo, m.moves[answers[k]][player]...)
		}
	}
	return kept
}

// undominated are those of the player's moves beside which there is no other one
// that is as good.
func (t *tables) undominated(player int, moves []game) []game {
	var kept []game
	for _, g := range moves {
		if !slices.ContainsFunc(moves, func(other game) bool { return other != g && t.isAsGood(player, other, g) }) {
			kept = append(kept, g)
		}
	}
	return kept
}
