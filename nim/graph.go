package nim

import "parlour/api"

// graph tells for each number from 0 on which ones can be moved to.
type graph [][]int

func (g graph) check() api.Errno {
	if len(g) > maxNumbers || g.most() > maxOthers {
		return api.ErrLarge
	}
	for _, others := range g {
		for _, to := range others {
			if to < 0 || to >= len(g) {
				return api.ErrRange
			}
		}
	}
	return api.OK
}

// most is how many others one has at most; the same one twice counts twice.
func (g graph) most() int {
	n := 0
	for _, others := range g {
		n = max(n, len(others))
	}
	return n
}

// How far a walk has come with a number.
const (
	untouched = iota
	begun
	done
)

// walk goes from each number to all that can be moved to, and works out the
// values on the way back.
type walk struct {
	graph
	far   []int
	value []int
}

// values are those of all numbers, unless one can be come back to.
func (g graph) values() ([]int, bool) {
	w := walk{graph: g, far: make([]int, len(g)), value: make([]int, len(g))}
	for i := range g {
		if !w.through(i) {
			return nil, false
		}
	}
	return w.value, true
}

// through tells whether no way from the number comes back to one that it has
// gone through. A way can be no longer than there are numbers.
func (w *walk) through(i int) bool {
	switch w.far[i] {
	case begun:
		return false
	case done:
		return true
	}
	w.far[i] = begun
	behind := make([]int, len(w.graph[i]))
	for k, to := range w.graph[i] {
		if !w.through(to) {
			return false
		}
		behind[k] = w.value[to]
	}
	w.value[i] = leastMissing(behind)
	w.far[i] = done
	return true
}

// isTooLarge tells of two graphs whether that of both side by side has too many
// numbers, or one with too many others.
func isTooLarge(a, b graph) bool {
	return len(a)*len(b) > maxNumbers || a.most()+b.most() > maxOthers
}

// sideBySide is the graph of the two, with one move in one of them.
func sideBySide(a, b graph) graph {
	both := make(graph, 0, len(a)*len(b))
	for i := range a {
		for j := range b {
			others := make([]int, 0, len(a[i])+len(b[j]))
			for _, to := range a[i] {
				others = append(others, to*len(b)+j)
			}
			for _, to := range b[j] {
				others = append(others, i*len(b)+to)
			}
			both = append(both, others)
		}
	}
	return both
}
