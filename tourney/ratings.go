package tourney

import "parlour/api"

// spread is the difference of ratings across which all is to be expected, from
// nothing to a game that is won.
const spread = 800

func ratingsBehind(start []float64, l []api.Result, k float64) []float64 {
	ratings := make([]float64, len(start))
	copy(ratings, start)
	for _, r := range l {
		a, b := ratings[r.A], ratings[r.B]
		c := change(a, b, r.Halves, k)
		ratings[r.A], ratings[r.B] = a+c, b-c
	}
	for i, x := range ratings {
		ratings[i] = unsigned(x)
	}
	return ratings
}

// change is what the first one's rating grows by. The conversions keep each step
// from being put together with the next one, which the language allows and P28
// does not.
func change(a, b float64, halves int, k float64) float64 {
	d := float64(float64(float64(a-b)/spread) + 0.5)
	d = min(max(d, 0), 1)
	return float64(k * float64(float64(float64(halves)/2)-d))
}

// unsigned is the same number, but 0 is never -0.
func unsigned(x float64) float64 {
	if x == 0 {
		return 0
	}
	return x
}
