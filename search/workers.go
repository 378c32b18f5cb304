package search

import (
	"sync"
	"sync/atomic"

	"parlour/api"
)

// round is what workers share who go through the moves of one position.
type round struct {
	*hunt
	// next are the positions behind the moves, depth how many moves are ahead
	// there.
	next  []api.Position
	depth int
	taken atomic.Int64
	best  lead
}

// share has the positions behind all moves searched by workers, and tells the
// best Score, for the player who moves, and the first number with which it
// comes.
func (h *hunt) share(next []api.Position, depth, workers int) (score, number int) {
	r := &round{hunt: h, next: next, depth: depth}
	// No move has been gone through: the first one, whatever its score, is better.
	r.best.score, r.best.number = -beyond(depth), len(next)
	var group sync.WaitGroup
	for range min(workers, len(next)) {
		group.Add(1)
		go func() {
			defer group.Done()
			r.work()
		}()
	}
	group.Wait()
	return r.best.score, r.best.number
}

// work takes moves that nobody else has taken, until there are no more.
func (r *round) work() {
	for {
		number := int(r.taken.Add(1)) - 1
		if number >= len(r.next) {
			return
		}
		q := question{r.next[number], r.depth}
		above := r.best.bar(number)
		r.best.offer(-r.score(q, -beyond(r.depth), -above), number)
	}
}

// beyond is more than any Score for so many moves ahead.
func beyond(depth int) int { return won + depth + 1 }
