package thermo

import "parlour/conway"

// The players.
const (
	left = iota
	right
)

// graph is what a game is worth to each player, if he begins, at each t: to Left
// the left wall, to Right the right one with its sign turned, so that all that is
// said of one player holds of the other one, too.
type graph struct {
	walls       [2]wall
	temperature int64
	isCold      bool
}

func (g graph) mean() int64 { return g.walls[left].at(g.temperature) }

// raise makes the graphs of all positions, and is that of the last one.
func raise(l []conway.Position, u unit) graph {
	graphs := make([]graph, len(l))
	for i, p := range l {
		if isNumber(p) {
			graphs[i] = upright(p.N * (u.one() / p.D))
		} else {
			graphs[i] = raised(p.Moves, graphs)
		}
	}
	return graphs[len(l)-1]
}

func isNumber(p conway.Position) bool { return p.D != 0 }

// upright is the graph of a number.
func upright(x int64) graph {
	return graph{walls: [2]wall{{{0, x}}, {{0, -x}}}, isCold: true}
}

// raised is the graph of a game with these moves, each of which has its own.
func raised(moves [2][]int, graphs []graph) graph {
	var answers [2]wall
	for player, l := range moves {
		var walls []wall
		for _, to := range l {
			walls = append(walls, graphs[to].walls[1-player])
		}
		answers[player] = lowest(walls)
	}
	g := graph{temperature: meeting(answers)}
	for player, answer := range answers {
		g.walls[player] = answer.met(g.temperature)
	}
	return g
}

// meeting is the least t at which l is not above r. How far it is above never
// grows; behind all knots it falls by 2 while t grows by 1.
func meeting(answers [2]wall) int64 {
	gap := func(t int64) int64 { return -answers[left].at(t) - answers[right].at(t) - 2*t }
	if gap(0) <= 0 {
		return 0
	}
	before, fall := int64(0), int64(2)
	for _, t := range times(answers[:]) {
		if gap(t) <= 0 {
			fall = (gap(before) - gap(t)) / (t - before)
			break
		}
		before = t
	}
	return before + gap(before)/fall
}
