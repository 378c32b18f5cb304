package chance

import "parlour/api"

// What P24 lets a tree have at most.
const (
	maxN      = 1000
	maxKids   = 20
	maxWeight = 100
	maxNodes  = 2000
	maxDepth  = 50
)

// areRight looks at all nodes, for one that is wrong is told ahead of there being
// too many. It looks at each list of Kids once, however often that is there: lists
// that several nodes share, or that come round to themselves, may make few nodes
// very many, or endless.
func areRight(t api.Tree) bool {
	seen := map[*api.Tree]int{}
	open := [][]api.Tree{{t}}
	for len(open) > 0 {
		list := open[len(open)-1]
		open = open[:len(open)-1]
		for _, node := range list {
			if !isRight(node) {
				return false
			}
			if kids := node.Kids; len(kids) > 0 && seen[&kids[0]] < len(kids) {
				seen[&kids[0]] = len(kids)
				open = append(open, kids)
			}
		}
	}
	return true
}

// isRight tells of a node alone, whatever its Kids are.
func isRight(t api.Tree) bool {
	switch t.Kind {
	case api.Leaf:
		return isFrom(-maxN, t.N, maxN) && len(t.Weights) == 0 && len(t.Kids) == 0
	case api.Most, api.Least:
		return t.N == 0 && len(t.Weights) == 0 && isFrom(1, len(t.Kids), maxKids)
	case api.Chance:
		return t.N == 0 && len(t.Weights) == len(t.Kids) && isFrom(1, len(t.Kids), maxKids) && areWeights(t.Weights)
	}
	return false
}

func areWeights(l []int) bool {
	for _, weight := range l {
		if !isFrom(1, weight, maxWeight) {
			return false
		}
	}
	return true
}

func isFrom(least, n, most int) bool { return least <= n && n <= most }

// room is how many more nodes there may be.
type room struct{ nodes int }

// holds looks no further where there is no room any more, so that it has an end
// in a tree without one, too.
func (r *room) holds(t api.Tree, depth int) bool {
	if r.nodes == 0 || depth == 0 {
		return false
	}
	r.nodes--
	for _, kid := range t.Kids {
		if !r.holds(kid, depth-1) {
			return false
		}
	}
	return true
}
