package search_test

import (
	"math/rand"
	"slices"
	"strings"
	"testing"

	"parlour/api"
	"parlour/moves"
	"parlour/search"
	"parlour/table"
)

// What stands here says the promise over again, in another way and slowly: all
// moves are made, nothing is spared or kept.

func slowWorth(r api.Rules, p api.Position, player int) int {
	sum := 0
	for _, piece := range r.Pieces {
		letter := string(piece.Letter)
		inHand := strings.Count(p.Hands[player], letter)
		if player == 1 {
			letter = strings.ToLower(letter)
		}
		sum += piece.Worth * (inHand + strings.Count(p.Cells, letter))
	}
	return sum
}

func slowScore(r api.Rules, p api.Position, depth int) int {
	switch o, _ := moves.Outcome(r, p); {
	case o == api.Draw:
		return 0
	case o == api.First && p.Turn == 0, o == api.Second && p.Turn == 1:
		return 10000 + depth
	case o != api.Open:
		return -10000 - depth
	case depth == 0:
		return slowWorth(r, p, p.Turn) - slowWorth(r, p, 1-p.Turn)
	}
	_, next, _ := moves.Next(r, p)
	scores := make([]int, len(next))
	for i, q := range next {
		scores[i] = -slowScore(r, q, depth-1)
	}
	return slices.Max(scores)
}

func slowSearch(r api.Rules, p api.Position, depth int) answer {
	a := answer{score: slowScore(r, p, depth)}
	if o, _ := moves.Outcome(r, p); o != api.Open || depth == 0 {
		return a
	}
	l, _ := moves.Moves(r, p)
	for _, m := range slices.Backward(l) {
		q, _ := moves.Apply(r, p, m)
		if slowScore(r, q, depth-1) == -a.score {
			a.best, a.some = m, true
		}
	}
	return a
}

func randomWay(rnd *rand.Rand) api.Way {
	w := api.Way{Kind: 1 + rnd.Intn(3), X: rnd.Intn(2), Y: rnd.Intn(3), Take: max(0, rnd.Intn(6)-3)}
	if w.Kind != api.Step && w.X > w.Y {
		w.X, w.Y = w.Y, w.X
	}
	if w.X == 0 && w.Y == 0 {
		w.Y = 1
	}
	return w
}

func randomHand(rnd *rand.Rand, letters string) string {
	hand := make([]byte, max(0, rnd.Intn(7)-3))
	for i := range hand {
		hand[i] = letters[rnd.Intn(len(letters))]
	}
	slices.Sort(hand)
	return string(hand)
}

func randomGame(rnd *rand.Rand) api.Rules {
	letters := []string{"K", "AZ", "QB", "CAB"}[rnd.Intn(4)]
	w, h := 1+rnd.Intn(4), 1+rnd.Intn(4)
	cells := make([]byte, w*h)
	for i := range cells {
		cells[i] = '.'
		if rnd.Intn(5) < 2 {
			cells[i] = letters[rnd.Intn(len(letters))] + byte(32*rnd.Intn(2))
		}
	}
	r := api.Rules{
		Start: api.Position{W: w, H: h, Cells: string(cells), Turn: rnd.Intn(2)},
		Drops: rnd.Intn(3) == 0,
		Stuck: rnd.Intn(2) == 0,
		Plies: 1 + rnd.Intn(1000),
	}
	r.Start.Hands = [2]string{randomHand(rnd, letters), randomHand(rnd, letters)}
	// With small worths many moves are as good as each other.
	most := []int{1, 3, 100}[rnd.Intn(3)]
	for i := range letters {
		piece := api.Piece{Letter: letters[i], Worth: rnd.Intn(most + 1)}
		for range 1 + rnd.Intn(2) {
			piece.Ways = append(piece.Ways, randomWay(rnd))
		}
		r.Pieces = append(r.Pieces, piece)
	}
	letter := letters[rnd.Intn(len(letters))]
	switch rnd.Intn(4) {
	case 0:
		r.Lose = letter
	case 1:
		r.Reach = letter
	case 2:
		r.Line = 3
	}
	return r
}

// seen is what came up in many games: each kind must, or they tell too little.
type seen struct {
	over, won, lost, level, later int
	depths                        [7]int
}

func (s *seen) look(r api.Rules, depth int, a answer) {
	s.depths[depth]++
	if !a.some {
		s.over++
		return
	}
	switch {
	case a.score >= 10000:
		s.won++
	case a.score <= -10000:
		s.lost++
	default:
		s.level++
	}
	if l, _ := moves.Moves(r, r.Start); a.best != l[0] {
		s.later++
	}
}

func TestManyGames(t *testing.T) {
	rnd := rand.New(rand.NewSource(6))
	var s seen
	for range 1500 {
		r := randomGame(rnd)
		for depth := range 7 {
			if n, e := moves.Count(r, r.Start, depth); e != api.OK || n > 4000 {
				break
			}
			want := slowSearch(r, r.Start, depth)
			s.look(r, depth, want)
			for _, w := range []struct{ workers, slots int }{
				{1, 0}, {1, 1 + rnd.Intn(4)}, {1, 1 + rnd.Intn(2000)},
				{2 + rnd.Intn(15), 0}, {2 + rnd.Intn(15), 1 + rnd.Intn(4)}, {2 + rnd.Intn(15), 1 + rnd.Intn(2000)},
			} {
				if a := ask(r, r.Start, depth, w.workers, w.slots); a != want {
					t.Fatalf("%+v, depth %d, %+v: %+v, not %+v", r, depth, w, a, want)
				}
			}
		}
	}
	for _, n := range append(s.depths[:], s.over, s.won, s.lost, s.level, s.later) {
		if n < 100 {
			t.Errorf("too little came up: %+v", s)
		}
	}
}

// What is won by the table is won by the search, as soon.
func TestTablesAndSearchesAgree(t *testing.T) {
	rnd := rand.New(rand.NewSource(7))
	near, far := 0, 0
	for range 300 {
		r := randomGame(rnd)
		l, e := table.Make(r, 500)
		if e != api.OK {
			continue
		}
		for _, i := range rnd.Perm(len(l))[:min(len(l), 6)] {
			x, depth := l[i], rnd.Intn(7)
			score, _, _, _ := search.Search(r, x.Pos, depth, 1+rnd.Intn(4), rnd.Intn(500))
			switch within := x.Dist <= depth; {
			case x.Value == api.Win && within:
				near++
				if score != 10000+depth-x.Dist {
					t.Fatalf("%+v: %+v, depth %d: %d", r, x, depth, score)
				}
			case x.Value == api.Loss && within:
				near++
				if score != -(10000 + depth - x.Dist) {
					t.Fatalf("%+v: %+v, depth %d: %d", r, x, depth, score)
				}
			default:
				far++
				if score >= 10000 || score <= -10000 {
					t.Fatalf("%+v: %+v, depth %d: %d", r, x, depth, score)
				}
			}
		}
	}
	if near < 100 || far < 100 {
		t.Error("too little came up:", near, far)
	}
}
