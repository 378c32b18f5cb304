package tourney_test

import (
	"math"
	"math/big"
	"math/rand"
	"slices"
	"testing"

	"parlour/api"
	"parlour/tourney"
)

// rounded is what a fraction is as a float64, the nearest one.
func rounded(x *big.Rat) float64 {
	f, _ := x.Float64()
	return f
}

func fraction(x float64) *big.Rat { return new(big.Rat).SetFloat64(x) }

func sum(a, b float64) float64 { return rounded(new(big.Rat).Add(fraction(a), fraction(b))) }

func difference(a, b float64) float64 { return rounded(new(big.Rat).Sub(fraction(a), fraction(b))) }

func product(a, b float64) float64 { return rounded(new(big.Rat).Mul(fraction(a), fraction(b))) }

func quotient(a, b float64) float64 { return rounded(new(big.Rat).Quo(fraction(a), fraction(b))) }

// slowRatings is straight from P28's words, each step exact and then rounded.
func slowRatings(start []float64, l []api.Result, k float64) []float64 {
	ratings := slices.Clone(start)
	for _, r := range l {
		a, b := ratings[r.A], ratings[r.B]
		d := sum(quotient(difference(a, b), 800), 0.5)
		if d < 0 {
			d = 0
		}
		if d > 1 {
			d = 1
		}
		c := product(k, difference(quotient(float64(r.Halves), 2), d))
		ratings[r.A], ratings[r.B] = sum(a, c), difference(b, c)
	}
	return ratings
}

func rates(t *testing.T, start []float64, l []api.Result, k float64, want ...float64) {
	t.Helper()
	got, e := tourney.Rate(start, l, k)
	if e != api.OK || !slices.Equal(got, want) {
		t.Error(start, l, k, got, e, "not", want)
	}
	for i, x := range got {
		if x == 0 && math.Signbit(x) {
			t.Error(start, l, k, "-0 at", i)
		}
	}
}

func noRates(t *testing.T, start []float64, l []api.Result, k float64) {
	t.Helper()
	if r, e := tourney.Rate(start, l, k); r != nil || e != api.ErrArg {
		t.Error(len(start), len(l), k, r, e)
	}
}

// wrongRatings are not from -1000000 to 1000000.
func wrongRatings() []float64 {
	return []float64{
		math.NaN(), math.Copysign(math.NaN(), -1), math.Float64frombits(0x7ff0000000000001), math.Inf(1), math.Inf(-1),
		math.Nextafter(1000000, 2000000), math.Nextafter(-1000000, -2000000), 1000001, -1000001, 1e300, -1e300, math.MaxFloat64, -math.MaxFloat64,
	}
}

func TestSizesOfRatings(t *testing.T) {
	rnd := rand.New(rand.NewSource(33))
	rates(t, nil, nil, 0)
	rates(t, []float64{}, []api.Result{}, 20)
	rates(t, []float64{1500}, nil, 20, 1500)
	for _, n := range []int{2, 3, 199, 200} {
		start := slices.Repeat([]float64{1500}, n)
		rates(t, start, nil, 20, start...)
		for _, count := range []int{1, 9999, 10000} {
			l := anyResults(rnd, n, count)
			rates(t, start, l, 20, slowRatings(start, l, 20)...)
		}
		for _, count := range []int{10001, 10002, 1 << 17} {
			noRates(t, start, anyResults(rnd, n, count), 20)
		}
	}
	for _, n := range []int{201, 202, 1000, 1 << 17} {
		noRates(t, make([]float64, n), nil, 20)
		noRates(t, make([]float64, n), []api.Result{{A: 0, B: 1, Halves: 1}}, 20)
	}
	// Room behind a list is no part of it.
	room := make([]float64, 300)
	rates(t, room[:2], anyResults(rnd, 2, 20000)[:1:20000], 0, 0, 0)
}

func TestWrongResultsOfRatings(t *testing.T) {
	for _, n := range []int{0, 1, 2, 3, 17, 200} {
		start := make([]float64, n, 300)
		eachWrong(n, func(l []api.Result) { noRates(t, start, l, 20) })
	}
}

func TestWrongRatings(t *testing.T) {
	game := []api.Result{{A: 0, B: 1, Halves: 1}}
	for _, wrong := range wrongRatings() {
		noRates(t, nil, nil, wrong)
		noRates(t, []float64{1, 2}, game, wrong)
		noRates(t, []float64{wrong}, nil, 20)
		for _, n := range []int{2, 3, 200} {
			for _, place := range []int{0, 1, n / 2, n - 1} {
				start := make([]float64, n)
				start[place] = wrong
				noRates(t, start, nil, 20)
				noRates(t, start, game, 20)
			}
		}
	}
	for _, right := range []float64{-1000000, 1000000, math.Nextafter(1000000, 0), 0, math.Copysign(0, -1), math.SmallestNonzeroFloat64, -math.SmallestNonzeroFloat64, 1e-300, -0.1} {
		rates(t, []float64{right, 5, right}, nil, right, right, 5, right)
		rates(t, []float64{right, 5}, game, right, slowRatings([]float64{right, 5}, game, right)...)
		rates(t, []float64{5, right}, game, right, slowRatings([]float64{5, right}, game, right)...)
	}
}

func TestRatings(t *testing.T) {
	game := func(halves ...int) (l []api.Result) {
		for _, h := range halves {
			l = append(l, api.Result{A: 0, B: 1, Halves: h})
		}
		return l
	}
	rates(t, []float64{1600, 1200}, game(0), 20, 1580, 1220)
	rates(t, []float64{1600, 1200}, game(1), 20, 1590, 1210)
	rates(t, []float64{1600, 1200}, game(2), 20, 1600, 1200)
	rates(t, []float64{1500, 1500}, game(0), 20, 1490, 1510)
	rates(t, []float64{1500, 1500}, game(1), 20, 1500, 1500)
	rates(t, []float64{1500, 1500}, game(2), 20, 1510, 1490)
	rates(t, []float64{1500, 1300}, game(2), 32, 1508, 1292)
	// More than 400 apart is as 400 is.
	rates(t, []float64{1601, 1200}, game(0), 20, 1581, 1220)
	rates(t, []float64{1000000, -1000000}, game(0), 20, 999980, -999980)
	rates(t, []float64{1000000, -1000000}, game(1), 20, 999990, -999990)
	rates(t, []float64{1000000, -1000000}, game(2), 20, 1000000, -1000000)
	rates(t, []float64{1200, 1600}, game(0), 20, 1200, 1600)
	rates(t, []float64{-1000000, 1000000}, game(0), 20, -1000000, 1000000)
	rates(t, []float64{-1000000, 1000000}, game(1), 20, -999990, 999990)
	rates(t, []float64{-1000000, 1000000}, game(2), 20, -999980, 999980)
	// Ratings may leave what they may be at the start.
	rates(t, []float64{-1000000, 1000000}, game(0, 0), -1000000, -1000000, 1000000)
	rates(t, []float64{1000000, 999200}, game(0, 0), -1000000, 3000000, -1000800)
	// Each result comes with the ratings of then, in the order of the list.
	rates(t, []float64{1500, 1500}, game(2, 0), 400, 1300, 1700)
	rates(t, []float64{1500, 1500}, game(0, 2), 400, 1700, 1300)
	rates(t, []float64{1500, 1500, 1500}, []api.Result{{A: 0, B: 1, Halves: 2}, {A: 2, B: 0, Halves: 2}}, 400, 1400, 1300, 1800)
	rates(t, []float64{1500, 1500, 1500}, []api.Result{{A: 2, B: 0, Halves: 2}, {A: 0, B: 1, Halves: 2}}, 400, 1600, 1200, 1700)
	rates(t, []float64{1500, 1500}, game(2, 0, 1), 0, 1500, 1500)
	rates(t, []float64{1500, 1500}, game(2), -20, 1490, 1510)
}

// What is 0 has no sign, wherever it comes from.
func TestNought(t *testing.T) {
	nought := math.Copysign(0, -1)
	rates(t, []float64{nought, 0, nought}, nil, nought, 0, 0, 0)
	for halves := range 3 {
		l := []api.Result{{A: 0, B: 1, Halves: halves}}
		for _, a := range []float64{0, nought} {
			for _, b := range []float64{0, nought} {
				rates(t, []float64{a, b}, l, nought, 0, 0)
				rates(t, []float64{a, b}, l, 0, 0, 0)
			}
		}
	}
	draw := []api.Result{{A: 0, B: 1, Halves: 1}}
	rates(t, []float64{100, -100}, draw, 400, 0, 0)
	rates(t, []float64{-100, 100}, draw, 400, 0, 0)
	// The least numbers that there are.
	least := math.SmallestNonzeroFloat64
	for _, k := range []float64{least, -least} {
		for halves := range 3 {
			rates(t, []float64{nought, nought}, []api.Result{{A: 0, B: 1, Halves: halves}}, k, 0, 0)
		}
		rates(t, []float64{nought, 900}, []api.Result{{A: 0, B: 1, Halves: 2}}, k, k, 900)
		rates(t, []float64{nought, 900}, draw, k, 0, 900)
	}
}

// anyRating is one of several sizes.
func anyRating(rnd *rand.Rand) float64 {
	switch rnd.Intn(6) {
	case 0:
		return float64(rnd.Intn(3000))
	case 1:
		return 1500 + rnd.NormFloat64()*200
	case 2:
		return (rnd.Float64()*2 - 1) * 1000000
	case 3:
		return math.Ldexp(rnd.Float64()*2-1, 19-rnd.Intn(1090))
	case 4:
		return float64(rnd.Intn(2001)-1000) * 1000
	}
	return rnd.Float64() * 100
}

func TestAnyRatings(t *testing.T) {
	rnd := rand.New(rand.NewSource(31))
	together := 0
	for range 20000 {
		start := make([]float64, 2+rnd.Intn(5))
		for i := range start {
			start[i] = anyRating(rnd)
		}
		l, k := anyResults(rnd, len(start), rnd.Intn(12)), anyRating(rnd)
		want := slowRatings(start, l, k)
		rates(t, start, l, k, want...)
		if !slices.Equal(fusedRatings(start, l, k), want) {
			together++
		}
	}
	if together < 1000 {
		t.Error("too seldom it was seen that steps are not put together:", together)
	}
}

// fusedRatings are wrong: the product and the sum behind it are rounded only once.
func fusedRatings(start []float64, l []api.Result, k float64) []float64 {
	ratings := slices.Clone(start)
	for _, r := range l {
		a, b := ratings[r.A], ratings[r.B]
		d := min(max((a-b)/800+0.5, 0), 1)
		more := float64(r.Halves)/2 - d
		ratings[r.A], ratings[r.B] = math.FMA(k, more, a), math.FMA(-k, more, b)
	}
	return ratings
}

func TestManyResults(t *testing.T) {
	rnd := rand.New(rand.NewSource(32))
	for _, k := range []float64{20, 0.1, 1000000, -1000000, 1.0 / 3} {
		start := make([]float64, 200)
		for i := range start {
			start[i] = anyRating(rnd)
		}
		l := anyResults(rnd, 200, 10000)
		rates(t, start, l, k, slowRatings(start, l, k)...)
	}
}
