package proof_test

import (
	"math/rand"
	"slices"
	"testing"

	"parlour/api"
	"parlour/moves"
	"parlour/proof"
	"parlour/search"
	"parlour/table"
)

// What stands here says the promises over again, in another way and slowly: all
// moves are made, nothing is spared or kept.

// slowWins tells whether there is a Cert.
func slowWins(r api.Rules, p api.Position, winner, within int) bool {
	if o, _ := moves.Outcome(r, p); o != api.Open {
		return o == winner+1
	}
	if within == 0 {
		return false
	}
	_, next, _ := moves.Next(r, p)
	wins := 0
	for _, q := range next {
		if slowWins(r, q, winner, within-1) {
			wins++
		}
	}
	return p.Turn == winner && wins > 0 || p.Turn != winner && wins == len(next)
}

// slowShows is P16, word by word.
func slowShows(r api.Rules, p api.Position, winner, within int, c api.Cert) bool {
	o, _ := moves.Outcome(r, p)
	switch {
	case o == winner+1:
		return same(c, api.Cert{})
	case o != api.Open || within < 1:
		return false
	case p.Turn == winner:
		q, e := moves.Apply(r, p, c.Move)
		return e == api.OK && c.Some && len(c.Kids) == 1 && slowShows(r, q, winner, within-1, c.Kids[0])
	}
	l, _ := moves.Moves(r, p)
	if !same(api.Cert{Some: c.Some, Move: c.Move}, api.Cert{}) || len(c.Kids) != len(l) {
		return false
	}
	for i, m := range l {
		q, _ := moves.Apply(r, p, m)
		if !slowShows(r, q, winner, within-1, c.Kids[i]) {
			return false
		}
	}
	return true
}

// anyCert is one of all Certs, by chance; there must be one.
func anyCert(rnd *rand.Rand, r api.Rules, p api.Position, winner, within int) api.Cert {
	l, next, _ := moves.Next(r, p)
	if len(l) == 0 {
		return api.Cert{}
	}
	if p.Turn != winner {
		var c api.Cert
		for _, q := range next {
			c.Kids = append(c.Kids, anyCert(rnd, r, q, winner, within-1))
		}
		return c
	}
	for _, i := range rnd.Perm(len(l)) {
		if slowWins(r, next[i], winner, within-1) {
			return api.Cert{Some: true, Move: l[i], Kids: []api.Cert{anyCert(rnd, r, next[i], winner, within-1)}}
		}
	}
	panic("there is no Cert")
}

func randomWay(rnd *rand.Rand) api.Way {
	w := api.Way{Kind: 1 + rnd.Intn(3), X: rnd.Intn(2), Y: rnd.Intn(3), Take: max(0, rnd.Intn(6)-3)}
	if w.Kind != api.Step && w.X > w.Y {
		w.X, w.Y = w.Y, w.X
	}
	if w.X == 0 && w.Y == 0 {
		w.Y = 1
	}
	return w
}

func randomHand(rnd *rand.Rand, letters string) string {
	hand := make([]byte, max(0, rnd.Intn(7)-3))
	for i := range hand {
		hand[i] = letters[rnd.Intn(len(letters))]
	}
	slices.Sort(hand)
	return string(hand)
}

func randomGame(rnd *rand.Rand) api.Rules {
	letters := []string{"K", "AZ", "QB", "CAB"}[rnd.Intn(4)]
	w, h := 1+rnd.Intn(4), 1+rnd.Intn(4)
	cells := make([]byte, w*h)
	for i := range cells {
		cells[i] = '.'
		if rnd.Intn(5) < 2 {
			cells[i] = letters[rnd.Intn(len(letters))] + byte(32*rnd.Intn(2))
		}
	}
	r := api.Rules{
		Start: api.Position{W: w, H: h, Cells: string(cells), Turn: rnd.Intn(2)},
		Drops: rnd.Intn(3) == 0,
		Stuck: rnd.Intn(2) == 0,
		Plies: 1 + rnd.Intn(1000),
	}
	r.Start.Hands = [2]string{randomHand(rnd, letters), randomHand(rnd, letters)}
	for i := range letters {
		piece := api.Piece{Letter: letters[i], Worth: rnd.Intn(101)}
		for range 1 + rnd.Intn(2) {
			piece.Ways = append(piece.Ways, randomWay(rnd))
		}
		r.Pieces = append(r.Pieces, piece)
	}
	letter := letters[rnd.Intn(len(letters))]
	switch rnd.Intn(4) {
	case 0:
		r.Lose = letter
	case 1:
		r.Reach = letter
	case 2:
		r.Line = 3
	}
	return r
}

// small tells whether all can be done slowly.
func small(r api.Rules, p api.Position, depth int) bool {
	n, e := moves.Count(r, p, min(depth, 6))
	if e != api.OK {
		return false
	}
	for ; depth > 6; depth-- {
		n *= 3
	}
	return n <= 4000
}

// seen is what came up in many games: each kind must, or they tell too little.
type seen struct{ won, none [10]int }

func (s *seen) look(depth int, won bool) {
	if won {
		s.won[depth]++
	} else {
		s.none[depth]++
	}
}

func (s *seen) enough(depths, least int) bool {
	return slices.Min(s.won[:depths]) >= least && slices.Min(s.none[:depths]) >= least
}

func TestManyGames(t *testing.T) {
	rnd := rand.New(rand.NewSource(8))
	var s seen
	for range 1500 {
		r := randomGame(rnd)
		p := r.Start
		for depth := range 10 {
			if !small(r, p, depth) {
				break
			}
			want := slowWins(r, p, p.Turn, depth)
			c, ok := prove(t, r, p, depth)
			if ok != want || ok && !slowShows(r, p, p.Turn, depth, c) {
				t.Fatalf("%+v, depth %d: %+v %v, not %v", r, depth, c, ok, want)
			}
			s.look(depth, ok)
			if ok {
				for other := range 10 {
					checks(t, r, p, other, c, slowShows(r, p, p.Turn, other, c))
				}
				checks(t, r, p, depth, anyCert(rnd, r, p, p.Turn, depth), true)
			}
		}
	}
	if !s.enough(10, 50) {
		t.Errorf("too little came up: %+v", s)
	}
}

// nodes are all parts of a Cert, itself the first.
func nodes(c *api.Cert) []*api.Cert {
	all := []*api.Cert{c}
	for i := range c.Kids {
		all = append(all, nodes(&c.Kids[i])...)
	}
	return all
}

// change makes a change, by chance, to one part of a Cert.
func change(rnd *rand.Rand, c *api.Cert) {
	all := nodes(c)
	x, y := all[rnd.Intn(len(all))], all[rnd.Intn(len(all))]
	step := 2*rnd.Intn(2) - 1
	switch rnd.Intn(9) {
	case 0:
		x.Some = !x.Some
	case 1:
		x.Move.From += step
	case 2:
		x.Move.To += step
	case 3:
		x.Move.Piece ^= []byte{1, 2, 32}[rnd.Intn(3)]
	case 4:
		x.Move = y.Move
	case 5:
		x.Kids = slices.Insert(x.Kids, rnd.Intn(len(x.Kids)+1), api.Cert{})
	case 6:
		rnd.Shuffle(len(x.Kids), func(i, j int) { x.Kids[i], x.Kids[j] = x.Kids[j], x.Kids[i] })
	case 7:
		if n := len(x.Kids); n > 0 {
			i := rnd.Intn(n)
			x.Kids = slices.Delete(x.Kids, i, i+1)
		}
	case 8:
		*x = laidOpen(*y)
	}
}

func TestManyCerts(t *testing.T) {
	rnd := rand.New(rand.NewSource(9))
	shown, not := 0, 0
	for range 1000 {
		r := randomGame(rnd)
		p, depth := r.Start, rnd.Intn(10)
		if !small(r, p, depth) || !slowWins(r, p, p.Turn, depth) {
			continue
		}
		for range 30 {
			c := anyCert(rnd, r, p, p.Turn, depth)
			change(rnd, &c)
			want := slowShows(r, p, p.Turn, depth, c)
			checks(t, r, p, depth, c, want)
			if want {
				shown++
			} else {
				not++
			}
		}
	}
	if shown < 500 || not < 2000 {
		t.Error("too little came up:", shown, not)
	}
}

// What is won by the table is won by a proof, as soon.
func TestTablesAndProofsAgree(t *testing.T) {
	rnd := rand.New(rand.NewSource(10))
	var near, far [10]int
	none := 0
	for range 4000 {
		r := randomGame(rnd)
		l, e := table.Make(r, 500)
		if e != api.OK {
			continue
		}
		for _, x := range l {
			won := x.Value == api.Win
			if depth := x.Dist; won && depth < 10 && near[depth] < 200 {
				near[depth]++
				if _, ok := prove(t, r, x.Pos, depth); !ok {
					t.Fatalf("%+v: %+v", r, x)
				}
			}
			if depth := x.Dist - 1; won && depth >= 0 && depth < 10 && far[depth] < 200 {
				far[depth]++
				if _, ok := prove(t, r, x.Pos, depth); ok {
					t.Fatalf("%+v: %+v", r, x)
				}
			}
			if !won && none < 500 {
				none++
				if _, ok := prove(t, r, x.Pos, 9); ok {
					t.Fatalf("%+v: %+v", r, x)
				}
			}
		}
	}
	for _, depth := range []int{1, 3, 5, 7, 9} {
		if near[depth] < 20 || far[depth-1] < 20 {
			t.Error("too little came up:", near, far)
		}
	}
	if near[0] < 20 || none < 500 {
		t.Error("too little came up:", near, far, none)
	}
}

// What is won by the search is won by a proof.
func TestSearchesAndProofsAgree(t *testing.T) {
	rnd := rand.New(rand.NewSource(11))
	var s seen
	for range 400 {
		r := randomGame(rnd)
		depth := rnd.Intn(7)
		score, _, _, e := search.Search(r, r.Start, depth, 2, 1000)
		c, ok, f := proof.Prove(r, r.Start, depth)
		if e != api.OK || f != api.OK || ok != (score >= 10000) {
			t.Fatalf("%+v, depth %d: %d, %+v %v", r, depth, score, c, ok)
		}
		s.look(depth, ok)
	}
	if !s.enough(7, 5) {
		t.Errorf("too little came up: %+v", s)
	}
}
