package conway

import (
	"slices"
	"strconv"

	"parlour/api"
)

// The players.
const (
	left = iota
	right
)

// game is the number of a canonical game in the tables. Each has only one, so
// games that are equal are the same.
type game int

// zero is the game without moves: the tables begin with it.
const zero game = 0

// sides are the games to which each player moves.
type sides [2][]game

type pair struct{ a, b game }

// verdict is what is known of a question.
type verdict int

const (
	open verdict = iota
	yes
	no
)

func verdictOf(is bool) verdict {
	if is {
		return yes
	}
	return no
}

// tables are what is known of games in one call: what can be moved to, which
// game has these moves, which is at least which, their negatives and sums.
type tables struct {
	moves     []sides
	games     map[string]game
	least     map[pair]verdict
	negatives map[game]game
	sums      map[pair]game
}

func newTables() *tables {
	t := &tables{
		games:     map[string]game{},
		least:     map[pair]verdict{},
		negatives: map[game]game{},
		sums:      map[pair]game{},
	}
	t.enter(sides{})
	return t
}

// enter is the canonical game with these moves, be it known or new.
func (t *tables) enter(s sides) game {
	for _, moves := range s {
		slices.Sort(moves)
	}
	key := string(s.key())
	g, known := t.games[key]
	if !known {
		g = game(len(t.moves))
		t.moves = append(t.moves, s)
		t.games[key] = g
	}
	return g
}

func (s sides) key() []byte {
	var key []byte
	for _, moves := range s {
		for _, to := range moves {
			key = append(strconv.AppendInt(key, int64(to), 10), ',')
		}
		key = append(key, '|')
	}
	return key
}

// order is how a compares with b.
func (t *tables) order(a, b game) int {
	more, less := t.isAtLeast(a, b), t.isAtLeast(b, a)
	switch {
	case more && less:
		return api.Same
	case more:
		return api.Greater
	case less:
		return api.Less
	}
	return api.Confused
}

// isAtLeast tells whether Left wins a-b when Right begins: none of Right's moves
// in a may lead to a game that b is at least, and none in -b, which are Left's
// in b, to one that is at least a, for with such a move Right would win.
func (t *tables) isAtLeast(a, b game) bool {
	if a == b {
		return true
	}
	question := pair{a, b}
	if known := t.least[question]; known != open {
		return known == yes
	}
	lost := slices.ContainsFunc(t.moves[a][right], func(to game) bool { return t.isAtLeast(b, to) }) ||
		slices.ContainsFunc(t.moves[b][left], func(to game) bool { return t.isAtLeast(to, a) })
	t.least[question] = verdictOf(!lost)
	return !lost
}

// isAsGood tells whether a is for the player at least as good as b.
func (t *tables) isAsGood(player int, a, b game) bool {
	if player == left {
		return t.isAtLeast(a, b)
	}
	return t.isAtLeast(b, a)
}

// isLarge tells whether a game has more positions than it may have.
func (t *tables) isLarge(g game) bool { return len(t.reach(g)) > maxPositions }

// reach are a game and all that moves lead to from it; if these are more than
// there may be, only some of them are looked for, but more than there may be.
func (t *tables) reach(g game) []game {
	met := map[game]struct{}{g: {}}
	all := []game{g}
	for i := 0; i < len(all) && len(all) <= maxPositions; i++ {
		for _, to := range slices.Concat(t.moves[all[i]][left], t.moves[all[i]][right]) {
			if _, known := met[to]; !known {
				met[to] = struct{}{}
				all = append(all, to)
			}
		}
	}
	return all
}
