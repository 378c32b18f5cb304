package moves

import (
	"parlour/api"
	"parlour/board"
)

// cellSet has a bit for each cell: no board has more than 64.
type cellSet uint64

func (s cellSet) have(cell int) bool { return s&(1<<cell) != 0 }

// goalsOf are the cells that the piece of the player whose turn it is goes to
// by these ways. As a set it has a cell once, however many ways lead there.
func goalsOf(p api.Position, from int, ways []api.Way) cellSet {
	var goals cellSet
	for _, w := range ways {
		eachStep(w, p.Turn, func(dx, dy int) {
			walk(p, from, dx, dy, func(cell int) bool {
				c := p.Cells[cell]
				if mayEnter(w, p.Turn, c) {
					goals |= 1 << cell
				}
				return w.Kind == api.Slide && c == board.Empty
			})
		})
	}
	return goals
}

func mayEnter(w api.Way, player int, c byte) bool {
	if c == board.Empty {
		return w.Take != api.Take
	}
	return w.Take != api.Quiet && board.IsOf(1-player, c)
}

// eachStep hands on how many columns and rows further each step of a way is;
// one that has several names may be handed on several times.
func eachStep(w api.Way, player int, do func(dx, dy int)) {
	if w.Kind == api.Step {
		ahead := w.Y * forward(player)
		do(w.X, ahead)
		do(-w.X, ahead)
		return
	}
	for _, right := range [...]int{-1, 1} {
		for _, up := range [...]int{-1, 1} {
			do(right*w.X, up*w.Y)
			do(right*w.Y, up*w.X)
		}
	}
}

// forward is the first player's way up, the second one's down.
func forward(player int) int { return 1 - 2*player }

// walk goes on from a cell by the same step, again and again, as long as there
// is a cell to come to and onward, which is asked at each of them, says so.
func walk(p api.Position, from, dx, dy int, onward func(cell int) bool) {
	x, y := from%p.W, from/p.W
again:
	x += dx
	y += dy
	if x < 0 || x >= p.W || y < 0 || y >= p.H {
		return
	}
	if onward(y*p.W + x) {
		goto again
	}
}
