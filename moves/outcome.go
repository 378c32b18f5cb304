package moves

import (
	"strings"

	"parlour/api"
	"parlour/board"
	"parlour/rules"
)

// Outcome: P9.
func Outcome(r api.Rules, p api.Position) (int, api.Errno) {
	if err := rules.CheckPosition(r, p); err != api.OK {
		return 0, err
	}
	return outcome(r, p), api.OK
}

func outcome(r api.Rules, p api.Position) int {
	if o := decided(r, p); o != api.Open {
		return o
	}
	if canMove(r, p) {
		return api.Open
	}
	if r.Stuck {
		return wonBy(1 - p.Turn)
	}
	return api.Draw
}

// canMove tells whether there are possible moves; it need not list them all.
func canMove(r api.Rules, p api.Position) bool {
	if r.Drops && p.Hands[p.Turn] != "" && strings.IndexByte(p.Cells, board.Empty) >= 0 {
		return true
	}
	for from := range len(p.Cells) {
		c := p.Cells[from]
		if board.IsOf(p.Turn, c) && goalsOf(p, from, waysOf(r, board.Capital(c))) != 0 {
			return true
		}
	}
	return false
}

func wonBy(player int) int {
	if player == 0 {
		return api.First
	}
	return api.Second
}

// decided is what the pieces on the board say, whatever can be done: Open, if
// that is nothing.
func decided(r api.Rules, p api.Position) int {
	me, other := p.Turn, 1-p.Turn
	switch {
	case r.Lose != 0 && !hasPiece(p, me, r.Lose):
		return wonBy(other)
	case r.Lose != 0 && !hasPiece(p, other, r.Lose):
		return wonBy(me)
	case r.Line != 0 && hasLine(p, other, r.Line):
		return wonBy(other)
	case r.Line != 0 && hasLine(p, me, r.Line):
		return wonBy(me)
	case r.Reach != 0 && hasReached(p, other, r.Reach):
		return wonBy(other)
	case r.Reach != 0 && hasReached(p, me, r.Reach):
		return wonBy(me)
	}
	return api.Open
}

func hasPiece(p api.Position, player int, letter byte) bool {
	return strings.IndexByte(p.Cells, board.LetterOf(player, letter)) >= 0
}

func hasLine(p api.Position, player, n int) bool {
	for from := range len(p.Cells) {
		if !board.IsOf(player, p.Cells[from]) {
			continue
		}
		for _, d := range [...]struct{ dx, dy int }{{1, 0}, {0, 1}, {1, 1}, {-1, 1}} {
			if lineFrom(p, player, from, d.dx, d.dy) >= n {
				return true
			}
		}
	}
	return false
}

// lineFrom is how many of the player's pieces are side by side from that one on.
func lineFrom(p api.Position, player, from, dx, dy int) int {
	n := 1
	walk(p, from, dx, dy, func(cell int) bool {
		if !board.IsOf(player, p.Cells[cell]) {
			return false
		}
		n++
		return true
	})
	return n
}

func hasReached(p api.Position, player int, letter byte) bool {
	last := p.Cells[len(p.Cells)-p.W:]
	if player == 1 {
		last = p.Cells[:p.W]
	}
	return strings.IndexByte(last, board.LetterOf(player, letter)) >= 0
}
