package tourney_test

import (
	"math"
	"math/rand"
	"slices"
	"testing"

	"parlour/api"
	"parlour/tourney"
)

// wrongResults are none of n players.
func wrongResults(n int) []api.Result {
	l := []api.Result{
		{A: 0, B: 0, Halves: 1}, {A: n - 1, B: n - 1, Halves: 1}, {A: -1, B: -1, Halves: 1}, {A: n, B: n, Halves: 1},
		{A: 0, B: 1, Halves: -1}, {A: 0, B: 1, Halves: 3}, {A: 1, B: 0, Halves: 4}, {A: 0, B: 1, Halves: math.MinInt}, {A: 0, B: 1, Halves: math.MaxInt}, {A: 0, B: 1, Halves: 1 << 32},
		{},
	}
	for _, x := range []int{-1, -n, n, n + 1, 256, 1 << 32, 1<<32 + 1, math.MinInt, math.MaxInt} {
		if x < 0 || x >= n {
			l = append(l, api.Result{A: x, B: 0, Halves: 1}, api.Result{A: 0, B: x, Halves: 1}, api.Result{A: x, B: 1, Halves: 2}, api.Result{A: 1, B: x})
		}
	}
	return l
}

// anyResults are right ones.
func anyResults(rnd *rand.Rand, n, count int) []api.Result {
	l := make([]api.Result, count)
	for i := range l {
		a, b := rnd.Intn(n), rnd.Intn(n-1)
		if b >= a {
			b++
		}
		l[i] = api.Result{A: a, B: b, Halves: rnd.Intn(3)}
	}
	return l
}

func noTable(t *testing.T, n int, l []api.Result) {
	t.Helper()
	if r, e := tourney.Table(n, l); r != nil || e != api.ErrArg {
		t.Error(n, len(l), r, e)
	}
}

func ranks(t *testing.T, n int, l []api.Result, want ...api.Rank) {
	t.Helper()
	if r, e := tourney.Table(n, l); e != api.OK || !slices.Equal(r, want) {
		t.Error(n, l, r, e, "not", want)
	}
}

func TestSizesOfTables(t *testing.T) {
	rnd := rand.New(rand.NewSource(200))
	for _, n := range []int{math.MinInt, -1000, -2, -1, 201, 202, 400, 1 << 16, 1 << 32, 1<<32 + 5, math.MaxInt} {
		noTable(t, n, nil)
		noTable(t, n, []api.Result{{A: 0, B: 1, Halves: 1}})
	}
	for _, n := range []int{0, 1, 2, 3, 199, 200} {
		holds(t, n, nil)
		holds(t, n, []api.Result{})
		if n < 2 {
			noTable(t, n, []api.Result{{A: 0, B: 1, Halves: 1}})
			continue
		}
		for _, count := range []int{1, 2, 9999, 10000} {
			holds(t, n, anyResults(rnd, n, count))
		}
		for _, count := range []int{10001, 10002, 20000, 1 << 20} {
			noTable(t, n, anyResults(rnd, n, count))
		}
	}
}

// eachWrong hands over lists of results of n players, each with a wrong one in it.
func eachWrong(n int, do func(l []api.Result)) {
	rnd := rand.New(rand.NewSource(27))
	for _, wrong := range wrongResults(n) {
		do([]api.Result{wrong})
		if n < 2 {
			continue
		}
		for _, count := range []int{2, 50, 10000} {
			for _, place := range []int{0, count / 2, count - 1} {
				l := anyResults(rnd, n, count)
				l[place] = wrong
				do(l)
			}
		}
	}
}

func TestWrongResultsOfTables(t *testing.T) {
	for _, n := range []int{0, 1, 2, 3, 17, 200} {
		eachWrong(n, func(l []api.Result) { noTable(t, n, l) })
	}
}

func TestRanks(t *testing.T) {
	ranks(t, 0, nil)
	ranks(t, 1, nil, api.Rank{})
	ranks(t, 3, nil, api.Rank{Player: 0}, api.Rank{Player: 1}, api.Rank{Player: 2})
	ranks(t, 3, []api.Result{{A: 0, B: 1, Halves: 2}, {A: 1, B: 2, Halves: 1}},
		api.Rank{Player: 0, Points: 2, Others: 1}, api.Rank{Player: 1, Points: 1, Others: 3}, api.Rank{Player: 2, Points: 1, Others: 1})
	// What the second one has is 2 less what the first one has.
	ranks(t, 2, []api.Result{{A: 0, B: 1, Halves: 0}}, api.Rank{Player: 1, Points: 2}, api.Rank{Player: 0, Others: 2})
	ranks(t, 2, []api.Result{{A: 0, B: 1, Halves: 1}}, api.Rank{Player: 0, Points: 1, Others: 1}, api.Rank{Player: 1, Points: 1, Others: 1})
	ranks(t, 2, []api.Result{{A: 1, B: 0, Halves: 2}}, api.Rank{Player: 1, Points: 2}, api.Rank{Player: 0, Others: 2})
	// An opponent counts as often as there was a game.
	ranks(t, 2, []api.Result{{A: 0, B: 1, Halves: 2}, {A: 1, B: 0, Halves: 1}, {A: 0, B: 1, Halves: 1}},
		api.Rank{Player: 0, Points: 4, Others: 6}, api.Rank{Player: 1, Points: 2, Others: 12})
	// As many points: by those of the opponents, also of later games.
	ranks(t, 5, []api.Result{{A: 0, B: 1, Halves: 2}, {A: 2, B: 3, Halves: 2}, {A: 3, B: 4, Halves: 2}},
		api.Rank{Player: 2, Points: 2, Others: 2}, api.Rank{Player: 3, Points: 2, Others: 2}, api.Rank{Player: 0, Points: 2, Others: 0},
		api.Rank{Player: 1, Points: 0, Others: 2}, api.Rank{Player: 4, Points: 0, Others: 2})
}

// slowRank is that of one player, straight from P27's words.
func slowRank(player int, l []api.Result) api.Rank {
	points := func(who int) (sum int) {
		for _, r := range l {
			if r.A == who {
				sum += r.Halves
			}
			if r.B == who {
				sum += 2 - r.Halves
			}
		}
		return sum
	}
	rank := api.Rank{Player: player, Points: points(player)}
	known := map[int]int{}
	for _, r := range l {
		if r.A != player && r.B != player {
			continue
		}
		other := r.A + r.B - player
		if _, ok := known[other]; !ok {
			known[other] = points(other)
		}
		rank.Others += known[other]
	}
	return rank
}

// holds: a table has each player's rank, and each but the last stands ahead of the
// next one.
func holds(t *testing.T, n int, l []api.Result) []api.Rank {
	t.Helper()
	ranks, e := tourney.Table(n, l)
	if e != api.OK || len(ranks) != n {
		t.Fatal(n, len(l), len(ranks), e)
	}
	seen := make([]bool, n)
	for i, r := range ranks {
		if seen[r.Player] {
			t.Fatal(n, "twice", r)
		}
		seen[r.Player] = true
		if n*len(l) < 1000000 || i%50 == 0 {
			if want := slowRank(r.Player, l); r != want {
				t.Fatal(n, len(l), r, "not", want)
			}
		}
		if i > 0 && !ahead(ranks[i-1], r) {
			t.Fatal(n, len(l), ranks[i-1], "ahead of", r)
		}
	}
	return ranks
}

func ahead(a, b api.Rank) bool {
	if a.Points != b.Points {
		return a.Points > b.Points
	}
	if a.Others != b.Others {
		return a.Others > b.Others
	}
	return a.Player < b.Player
}

func TestAnyTable(t *testing.T) {
	rnd := rand.New(rand.NewSource(28))
	var points, others, neither int
	for range 3000 {
		n := 2 + rnd.Intn(30)
		ranks := holds(t, n, anyResults(rnd, n, rnd.Intn(3*n)))
		for i := 1; i < n; i++ {
			a, b := ranks[i-1], ranks[i]
			switch {
			case a.Points != b.Points:
				points++
			case a.Others != b.Others:
				others++
			default:
				neither++
			}
		}
	}
	if points < 1000 || others < 1000 || neither < 1000 {
		t.Error("too little came up:", points, others, neither)
	}
}

// The order of the results is no matter, nor who of a game is told first.
func TestResultsInAnyOrder(t *testing.T) {
	rnd := rand.New(rand.NewSource(29))
	for range 500 {
		n := 2 + rnd.Intn(30)
		l := anyResults(rnd, n, rnd.Intn(100))
		want := holds(t, n, l)
		for i, r := range l {
			if rnd.Intn(2) == 0 {
				l[i] = api.Result{A: r.B, B: r.A, Halves: 2 - r.Halves}
			}
		}
		rnd.Shuffle(len(l), func(i, j int) { l[i], l[j] = l[j], l[i] })
		ranks(t, n, l, want...)
	}
	// The most points there can be.
	most := slices.Repeat([]api.Result{{A: 7, B: 3, Halves: 2}}, 10000)
	if r := holds(t, 200, most); r[0] != (api.Rank{Player: 7, Points: 20000}) || r[1] != (api.Rank{Player: 3, Others: 200000000}) || r[2] != (api.Rank{Player: 0}) {
		t.Error(r[:3])
	}
}
