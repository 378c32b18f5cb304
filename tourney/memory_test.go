package tourney_test

import (
	"math/rand"
	"reflect"
	"slices"
	"sync"
	"testing"

	"parlour/api"
	"parlour/tourney"
)

// given is what may be handed in, in lists with room behind them.
type given struct {
	barred  [][2]int
	results []api.Result
	start   []float64
}

func newGiven() given {
	return given{
		barred:  [][2]int{{1, 0}, {2, 3}, {0, 2}, {77, 78}, {-1, 79}},
		results: []api.Result{{A: 1, B: 0, Halves: 1}, {A: 0, B: 1, Halves: 2}, {A: 2, B: 0, Halves: 0}, {A: 77, B: 78, Halves: 79}},
		start:   []float64{1500, 1200, 1400, 77, 78},
	}
}

// answer is all that comes of it.
type answer struct {
	pairs, none [][2]int
	barrier     []int
	ranks       []api.Rank
	ratings     []float64
}

func (g given) asked(t *testing.T) (x answer) {
	t.Helper()
	var errs [4]api.Errno
	x.pairs, _, errs[0] = tourney.Pair(4, g.barred[:3])
	x.none, x.barrier, errs[1] = tourney.Pair(4, [][2]int{{1, 0}, {2, 1}, {0, 2}})
	x.ranks, errs[2] = tourney.Table(3, g.results[:3])
	x.ratings, errs[3] = tourney.Rate(g.start[:3], g.results[:3], 20)
	if errs != [4]api.Errno{} {
		t.Error(errs)
	}
	return x
}

func TestWhatIsHandedInStays(t *testing.T) {
	g := newGiven()
	first := g.asked(t)
	if !reflect.DeepEqual(g, newGiven()) {
		t.Error(g)
	}
	want := answer{
		pairs: [][2]int{{0, 3}, {1, 2}}, barrier: []int{3},
		ranks:   []api.Rank{{Player: 0, Points: 5, Others: 2}, {Player: 1, Points: 1, Others: 10}, {Player: 2, Points: 0, Others: 5}},
		ratings: slowRatings(newGiven().start[:3], newGiven().results[:3], 20),
	}
	if !reflect.DeepEqual(first, want) {
		t.Error(first, "not", want)
	}
	// What is done with an answer is seen nowhere else, nor what is done with what
	// was handed in.
	second := g.asked(t)
	clear(first.pairs[:cap(first.pairs)])
	clear(first.barrier[:cap(first.barrier)])
	clear(first.ranks[:cap(first.ranks)])
	clear(first.ratings[:cap(first.ratings)])
	if !reflect.DeepEqual(g, newGiven()) || !reflect.DeepEqual(g.asked(t), want) {
		t.Error(g)
	}
	clear(g.barred)
	clear(g.results)
	clear(g.start)
	if !reflect.DeepEqual(second, want) {
		t.Error(second, "not", want)
	}
}

func TestEmptyListsStayApart(t *testing.T) {
	room := []float64{1, 2, 3}
	if r, e := tourney.Rate(room[:0], nil, 5); e != api.OK || len(append(r, 7)) != 1 || room[0] != 1 {
		t.Error(r, e, room)
	}
}

func TestCallsAtTheSameTime(t *testing.T) {
	rnd := rand.New(rand.NewSource(9))
	type question struct {
		f field
		l []api.Result
	}
	ask := func(q question) (x answer) {
		x.pairs, x.barrier, _ = tourney.Pair(q.f.n, q.f.barred())
		x.ranks, _ = tourney.Table(q.f.n, q.l)
		x.ratings, _ = tourney.Rate(make([]float64, q.f.n), q.l, 20)
		return x
	}
	var all []question
	var want []answer
	for range 20 {
		n := 2 + 2*rnd.Intn(30)
		q := question{anyField(rnd, n, 1+rnd.Float64()*5), anyResults(rnd, n, 100)}
		all, want = append(all, q), append(want, ask(q))
	}
	if !slices.ContainsFunc(want, func(x answer) bool { return x.pairs == nil }) || !slices.ContainsFunc(want, func(x answer) bool { return x.pairs != nil }) {
		t.Error("too little came up")
	}
	var group sync.WaitGroup
	for range 8 {
		group.Go(func() {
			for i := range 200 {
				if k := i % len(all); !reflect.DeepEqual(ask(all[k]), want[k]) {
					t.Error(k)
				}
			}
		})
	}
	group.Wait()
}
