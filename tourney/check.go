package tourney

import "parlour/api"

// What P26 to P28 let a tournament have at most.
const (
	maxPaired  = 60
	maxRanked  = 200
	maxResults = 10000
	maxRating  = 1000000
)

// isField: so many players are those of a round.
func isField(n int) bool { return isFrom(0, n, maxPaired) && n%2 == 0 }

func areTwos(n int, l [][2]int) bool {
	for _, two := range l {
		if !isTwo(n, two[0], two[1]) {
			return false
		}
	}
	return true
}

func areResults(n int, l []api.Result) bool {
	if len(l) > maxResults {
		return false
	}
	for _, r := range l {
		if !isTwo(n, r.A, r.B) || !isFrom(0, r.Halves, 2) {
			return false
		}
	}
	return true
}

// isTwo: they are two different players of n.
func isTwo(n, a, b int) bool {
	return isFrom(0, a, n-1) && isFrom(0, b, n-1) && a != b
}

func areRatings(l []float64) bool {
	for _, x := range l {
		if !isRating(x) {
			return false
		}
	}
	return true
}

// isRating does not hold of what is no number, for that is not above anything.
func isRating(x float64) bool { return -maxRating <= x && x <= maxRating }

func isFrom(least, n, most int) bool { return least <= n && n <= most }
