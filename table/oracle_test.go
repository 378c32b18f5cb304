package table_test

import (
	"math/rand"
	"slices"
	"sort"
	"strings"
	"testing"

	"parlour/api"
	"parlour/moves"
	"parlour/table"
)

// What stands here says the promises over again, in another way and slowly:
// round by round, what is won or lost within so many moves.

// slowReach are the positions behind all moves of each position that is
// reached; nil, if those are more than most.
func slowReach(r api.Rules, most int) map[api.Position][]api.Position {
	all, todo := map[api.Position][]api.Position{}, []api.Position{r.Start}
	for len(todo) > 0 {
		p := todo[len(todo)-1]
		todo = todo[:len(todo)-1]
		if _, done := all[p]; done {
			continue
		}
		if len(all) == most {
			return nil
		}
		l, _ := moves.Moves(r, p)
		all[p] = []api.Position{}
		for _, m := range l {
			q, _ := moves.Apply(r, p, m)
			all[p] = append(all[p], q)
		}
		todo = append(todo, all[p]...)
	}
	return all
}

func atEnd(r api.Rules, p api.Position) int {
	o, _ := moves.Outcome(r, p)
	return [][2]int{api.Open: {}, api.First: {api.Win, api.Loss}, api.Second: {api.Loss, api.Win}, api.Draw: {}}[o][p.Turn]
}

func slowValues(r api.Rules, all map[api.Position][]api.Position) map[api.Position]api.Entry {
	within := map[api.Position]api.Entry{}
	for p, next := range all {
		if v := atEnd(r, p); len(next) == 0 && v != 0 {
			within[p] = api.Entry{Pos: p, Value: v}
		}
	}
	for round, more := 1, true; more; round++ {
		later := map[api.Position]api.Entry{}
		for p, next := range all {
			lost, won := 0, 0
			for _, q := range next {
				switch within[q].Value {
				case api.Loss:
					lost++
				case api.Win:
					won++
				}
			}
			if _, known := within[p]; known || len(next) == 0 {
				continue
			}
			if lost > 0 {
				later[p] = api.Entry{Pos: p, Value: api.Win, Dist: round}
			} else if won == len(next) {
				later[p] = api.Entry{Pos: p, Value: api.Loss, Dist: round}
			}
		}
		more = len(later) > 0
		for p, x := range later {
			within[p] = x
		}
	}
	return within
}

func slowMake(r api.Rules, most int) []api.Entry {
	all := slowReach(r, most)
	if all == nil {
		return nil
	}
	values := slowValues(r, all)
	l := []api.Entry{}
	for p := range all {
		x, known := values[p]
		if !known {
			x = api.Entry{Pos: p, Value: api.Even}
		}
		l = append(l, x)
	}
	key := func(p api.Position) string {
		return strings.Join([]string{p.Cells, "01"[p.Turn : p.Turn+1], p.Hands[0], p.Hands[1]}, "\x00")
	}
	sort.Slice(l, func(i, j int) bool { return key(l[i].Pos) < key(l[j].Pos) })
	return l
}

func entryOf(l []api.Entry, p api.Position) api.Entry {
	if i := slices.IndexFunc(l, func(x api.Entry) bool { return x.Pos == p }); i >= 0 {
		return l[i]
	}
	return api.Entry{}
}

func slowBest(r api.Rules, l []api.Entry, p api.Position) (api.Move, bool) {
	all, _ := moves.Moves(r, p)
	here := entryOf(l, p)
	for _, m := range all {
		q, _ := moves.Apply(r, p, m)
		there := entryOf(l, q)
		less := there.Dist == here.Dist-1
		if less && (here.Value == api.Win && there.Value == api.Loss || here.Value == api.Loss && there.Value == api.Win) || here.Value == api.Even && there.Value == api.Even {
			return m, true
		}
	}
	return api.Move{}, false
}

func randomWay(rnd *rand.Rand) api.Way {
	w := api.Way{Kind: 1 + rnd.Intn(3), X: rnd.Intn(2), Y: rnd.Intn(3), Take: max(0, rnd.Intn(6)-3)}
	if w.Kind != api.Step && w.X > w.Y {
		w.X, w.Y = w.Y, w.X
	}
	if w.X == 0 && w.Y == 0 {
		w.Y = 1
	}
	return w
}

func randomHand(rnd *rand.Rand, letters string) string {
	hand := make([]byte, max(0, rnd.Intn(6)-3))
	for i := range hand {
		hand[i] = letters[rnd.Intn(len(letters))]
	}
	slices.Sort(hand)
	return string(hand)
}

func randomGame(rnd *rand.Rand) api.Rules {
	letters := []string{"K", "AZ", "QB", "CAB"}[rnd.Intn(4)]
	w, h := 1+rnd.Intn(4), 1+rnd.Intn(4)
	cells := make([]byte, w*h)
	for i := range cells {
		cells[i] = '.'
		if rnd.Intn(5) < 2 {
			cells[i] = letters[rnd.Intn(len(letters))] + byte(32*rnd.Intn(2))
		}
	}
	r := api.Rules{
		Start: api.Position{W: w, H: h, Cells: string(cells), Turn: rnd.Intn(2)},
		Drops: rnd.Intn(3) == 0,
		Stuck: rnd.Intn(2) == 0,
		Plies: 1 + rnd.Intn(1000),
	}
	r.Start.Hands = [2]string{randomHand(rnd, letters), randomHand(rnd, letters)}
	for i := range letters {
		piece := api.Piece{Letter: letters[i], Worth: rnd.Intn(101)}
		for range 1 + rnd.Intn(2) {
			piece.Ways = append(piece.Ways, randomWay(rnd))
		}
		r.Pieces = append(r.Pieces, piece)
	}
	letter := letters[rnd.Intn(len(letters))]
	switch rnd.Intn(4) {
	case 0:
		r.Lose = letter
	case 1:
		r.Reach = letter
	case 2:
		r.Line = 3
	}
	return r
}

// seen is what came up in many games: each kind must, or they tell too little.
type seen struct {
	values               [4]int
	far, hands, tooLarge int
}

func (s *seen) look(l []api.Entry) {
	for i, x := range l {
		s.values[x.Value]++
		if x.Dist > 6 {
			s.far++
		}
		if i > 0 && l[i-1].Pos.Cells == x.Pos.Cells && l[i-1].Pos.Turn == x.Pos.Turn {
			s.hands++
		}
	}
}

func TestManyGames(t *testing.T) {
	rnd := rand.New(rand.NewSource(5))
	var s seen
	for range 1500 {
		r := randomGame(rnd)
		want := slowMake(r, 600)
		l, e := table.Make(r, 600)
		if want == nil {
			s.tooLarge++
			if l != nil || e != api.ErrLarge {
				t.Fatalf("%+v: %d entries, %v", r, len(l), e)
			}
			continue
		}
		if !slices.Equal(l, want) || e != api.OK {
			t.Fatalf("%+v: %v %v, not %v", r, l, e, want)
		}
		if again, e := table.Make(r, len(l)); !slices.Equal(again, want) || e != api.OK {
			t.Fatalf("%+v: %v with just as many", r, e)
		}
		if len(l) > 1 {
			if none, e := table.Make(r, len(l)-1); none != nil || e != api.ErrLarge {
				t.Fatalf("%+v: %v with one fewer", r, e)
			}
		}
		s.look(l)
		shuffled := slices.Clone(l)
		rnd.Shuffle(len(l), func(i, j int) { shuffled[i], shuffled[j] = shuffled[j], shuffled[i] })
		for _, i := range rnd.Perm(len(l))[:min(len(l), 25)] {
			p := l[i].Pos
			m, ok := slowBest(r, l, p)
			if o, _ := moves.Outcome(r, p); ok != (o == api.Open) {
				t.Fatalf("%+v: of %+v there is a best move: %v", r, p, ok)
			}
			for _, given := range [][]api.Entry{l, shuffled} {
				if got, e := table.Best(r, given, p); got != m || (e == api.OK) != ok || !ok && e != api.ErrAbsent {
					t.Fatalf("%+v: of %+v %v %v, not %v", r, p, got, e, m)
				}
			}
		}
	}
	for _, n := range []int{s.values[api.Win], s.values[api.Loss], s.values[api.Even], s.far, s.hands, s.tooLarge} {
		if n < 100 {
			t.Errorf("too little came up: %+v", s)
		}
	}
}
