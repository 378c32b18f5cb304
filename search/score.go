package search

import (
	"parlour/api"
	"parlour/board"
	"parlour/moves"
)

// won is the Score of a win, but for the moves that are still ahead then. All
// pieces that a player can have are worth less.
const won = 10000

// question asks for the Score of a position for so many moves ahead.
type question struct {
	pos   api.Position
	depth int
}

// hunt is what everything that is done for one answer has in common.
type hunt struct {
	rules  api.Rules
	worths worths
	kept   store
}

// score is the Score, if that is above low and below high. Other ones are not
// told just so, for the search can end sooner then: of a Score that is not
// above low the answer is some number from it to low, of one that is not below
// high some number from high to it.
func (h *hunt) score(q question, low, high int) int {
	if q.depth == 0 {
		return h.atEnd(q)
	}
	known := h.kept.recall(q)
	switch {
	case known.least >= high || known.least == known.most:
		return known.least
	case known.most <= low:
		return known.most
	}
	all, _ := moves.Moves(h.rules, q.pos)
	if len(all) == 0 {
		return h.atEnd(q)
	}
	// No move is better than one that wins at once.
	utmost := won + q.depth - 1
	best := -utmost
	for _, m := range takesFirst(q.pos, all) {
		further := question{moves.Behind(h.rules, q.pos, m), q.depth - 1}
		best = max(best, -h.score(further, -high, -max(low, best)))
		if best >= min(high, utmost) {
			break
		}
	}
	h.kept.keep(q, learnt(best, low, high, utmost))
	return best
}

// learnt is what is known of a Score from -utmost to utmost, if the answer to
// low and high was best.
func learnt(best, low, high, utmost int) span {
	switch {
	case best <= low:
		return span{-utmost, best}
	case best >= high:
		return span{best, utmost}
	}
	return span{best, best}
}

// takesFirst are the moves in the order in which they are tried: where much
// changes, bounds are found soon that spare the search the rest.
func takesFirst(p api.Position, all []api.Move) []api.Move {
	takes, quiet := make([]api.Move, 0, len(all)), make([]api.Move, 0, len(all))
	for _, m := range all {
		if p.Cells[m.To] == board.Empty {
			quiet = append(quiet, m)
		} else {
			takes = append(takes, m)
		}
	}
	return append(takes, quiet...)
}

// atEnd is the Score of a position behind which nothing is looked at: it is not
// Open, or no moves are ahead.
func (h *hunt) atEnd(q question) int {
	me, other := q.pos.Turn, 1-q.pos.Turn
	winners := [...]int{api.First, api.Second}
	switch o, _ := moves.Outcome(h.rules, q.pos); o {
	case winners[me]:
		return won + q.depth
	case winners[other]:
		return -(won + q.depth)
	case api.Draw:
		return 0
	}
	return h.worths.of(q.pos, me) - h.worths.of(q.pos, other)
}

// worths are those of the pieces, by their letters from A on.
type worths ['Z' - 'A' + 1]int

func worthsOf(pieces []api.Piece) worths {
	var w worths
	for _, piece := range pieces {
		w[piece.Letter-'A'] = piece.Worth
	}
	return w
}

// of is what a player's pieces are worth, on the board and in the hand.
func (w *worths) of(p api.Position, player int) int {
	sum := 0
	for i := range len(p.Cells) {
		if c := p.Cells[i]; board.IsOf(player, c) {
			sum += w[board.Capital(c)-'A']
		}
	}
	hand := p.Hands[player]
	for i := range len(hand) {
		sum += w[hand[i]-'A']
	}
	return sum
}
