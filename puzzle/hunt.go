package puzzle

// hunt looks for solutions. It knows of each demand how often nothing was left for
// it: where a few demands can not be met together, whatever is done elsewhere,
// they soon weigh so much that they are looked at first. Without that a puzzle
// with few numbers and no solution may take millions of tries.
type hunt struct {
	*square
	weights [maxDemands]int
}

func newHunt(s *square) *hunt {
	h := &hunt{square: s}
	for d := range h.weights {
		h.weights[d] = 1
	}
	return h
}

// isSolvable: some way to fill what is still empty is a solution.
func (h *hunt) isSolvable(t state) bool {
	for {
		d, some := h.next(&t)
		if !some {
			return true
		}
		switch t.left[d] {
		case 0:
			h.weights[d]++
			return false
		case 1:
			h.take(&t, h.first(&t, d))
		default:
			c := h.first(&t, d)
			tried := t
			h.take(&tried, c)
			if h.isSolvable(tried) {
				return true
			}
			h.drop(&t, c)
		}
	}
}

// next is a demand for which one choice or none is left, or else that for which
// the fewest are, for its weight. There is none if all are met.
func (h *hunt) next(t *state) (best demand, some bool) {
	for i, left := range t.left[:kinds*h.cells()] {
		d := demand(i)
		switch {
		case left == met:
		case left <= 1:
			return d, true
		case !some || h.isHarder(t, d, best):
			best, some = d, true
		}
	}
	return best, some
}

func (h *hunt) isHarder(t *state, a, b demand) bool {
	return int(t.left[a])*h.weights[b] < int(t.left[b])*h.weights[a]
}
