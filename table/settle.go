package table

import "parlour/api"

// unknown is the value of a node of which nothing is known yet.
const unknown = 0

// settle goes from the end backward. What is won or lost is looked at in the
// order of its Dist, as a queue keeps it: so the first reason for a Win is the
// nearest one, and the last one for a Loss the farthest.
func settle(nodes []node) {
	var known []int
	for i, n := range nodes {
		if n.entry.Value == api.Win || n.entry.Value == api.Loss {
			known = append(known, i)
		}
	}
	for k := 0; k < len(known); k++ {
		at := nodes[known[k]]
		for _, i := range at.from {
			if nodes[i].entry.Value == unknown && nodes[i].learn(at.entry) {
				known = append(known, i)
			}
		}
	}
	for i := range nodes {
		if nodes[i].entry.Value == unknown {
			nodes[i].entry.Value = api.Even
		}
	}
}

// learn takes in what a position behind a move is worth, and tells whether the
// node's own value is thereby known.
func (n *node) learn(behind api.Entry) bool {
	n.left--
	switch {
	case behind.Value == api.Loss:
		n.entry.Value = api.Win
	case n.left == 0:
		n.entry.Value = api.Loss
	default:
		return false
	}
	n.entry.Dist = behind.Dist + 1
	return true
}
