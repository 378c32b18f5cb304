package table

import (
	"parlour/api"
	"parlour/board"
	"parlour/moves"
)

// node is a position on the way to its entry.
type node struct {
	entry api.Entry
	// from are the numbers of the nodes that have a move to this one.
	from []int
	// left is how many moves are not yet known to lead to won positions.
	left int
}

// reached are the nodes of all positions to which moves lead from Start, those
// that are not Open with their values; not ok, if they are more than most.
func reached(r api.Rules, most int) (nodes []node, ok bool) {
	// Not turned at all it is a copy: an answer has no memory of the rules.
	start, _ := board.Turned(r.Start, 0)
	numbers := map[api.Position]int{start: 0}
	nodes = []node{{entry: api.Entry{Pos: start}}}
	for i := 0; i < len(nodes); i++ {
		p := nodes[i].entry.Pos
		_, next, _ := moves.Next(r, p)
		if len(next) == 0 {
			nodes[i].entry.Value = valueAtEnd(r, p)
		}
		nodes[i].left = len(next)
		for _, q := range next {
			k, known := numbers[q]
			if !known {
				if len(nodes) == most {
					return nil, false
				}
				k = len(nodes)
				numbers[q] = k
				nodes = append(nodes, node{entry: api.Entry{Pos: q}})
			}
			nodes[k].from = append(nodes[k].from, i)
		}
	}
	return nodes, true
}

// valueAtEnd is what a position is worth that is not Open.
func valueAtEnd(r api.Rules, p api.Position) int {
	winners := [...]int{api.First, api.Second}
	switch o, _ := moves.Outcome(r, p); o {
	case winners[p.Turn]:
		return api.Win
	case winners[1-p.Turn]:
		return api.Loss
	}
	return api.Even
}
