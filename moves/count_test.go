package moves_test

import (
	"math"
	"strconv"
	"strings"
	"testing"

	"parlour/api"
	"parlour/moves"
)

func counts(t *testing.T, r api.Rules, want ...int) {
	t.Helper()
	for depth, n := range want {
		code := api.OK
		if n < 0 {
			n, code = 0, api.ErrLarge
		}
		if m, e := moves.Count(r, r.Start, depth); m != n || e != code {
			t.Errorf("%s, depth %d: %d %v, not %d %v", r.Start.Cells, depth, m, e, n, code)
		}
	}
}

// large stands for what is too large.
const large = -1

func TestCountsOfKnownGames(t *testing.T) {
	noughts := game(t, "start .../.../... w XXXXX/XXXX", "piece X 0", "drops", "line 3", "plies 9")
	counts(t, noughts, 1, 9, 72, 504, 3024, 15120, 54720)

	empty := strings.Repeat("......../", 4)
	breakthrough := game(t, "start pppppppp/pppppppp/"+empty+"PPPPPPPP/PPPPPPPP w -/-",
		"piece P 1: step 0 1 quiet, step 1 1", "reach P", "stuck", "plies 200")
	counts(t, breakthrough, 1, 22, 484, 11132, large, large, large)

	hexapawn := game(t, "start ppp/.../PPP w -/-", "piece P 1: step 0 1 quiet, step 1 1 take", "reach P", "stuck", "plies 9")
	counts(t, hexapawn, 1, 3, 10, 28, 56, 70, 64)
}

func TestCountsOfShortGames(t *testing.T) {
	// The one piece goes up until it is there.
	path := game(t, "start ./././P w -/-", "piece P 0: step 0 1", "plies 9")
	counts(t, path, 1, 1, 0, 0, 0, 0, 0)
	race := game(t, "start .p/../../P. w -/-", "piece P 0: step 0 1", "reach P", "plies 9")
	counts(t, race, 1, 1, 1, 1, 1, 1, 0)
	over := game(t, "start .P/P. w -/-", "piece P 0: leap 0 1", "reach P", "plies 9")
	counts(t, over, 1, 0, 0, 0, 0, 0, 0)
}

// pawns stand in columns of their own, each with a long way to go: there is
// one move of each at any time.
func pawns(t *testing.T, n int) api.Rules {
	t.Helper()
	rows := strings.Repeat(strings.Repeat(".", n)+"/", 6)
	return game(t, "start "+strings.Repeat("p", n)+"/"+rows+strings.Repeat("P", n)+" w -/-", "piece P 0: step 0 1", "plies 9")
}

func TestEdgeOfLarge(t *testing.T) {
	counts(t, pawns(t, 6), 1, 6, 36, 216, 1296, 7776, 46656)
	counts(t, pawns(t, 7), 1, 7, 49, 343, 2401, 16807, large)
	// Two in a row of seven cells have ten moves at any time: 100000 itself is
	// not too large.
	rows := game(t, "start pp...../PP..... w -/-",
		"piece P 0: step 1 0, step 2 0, step 3 0, step 4 0, step 5 0, step 6 0", "plies 9")
	counts(t, rows, 1, 10, 100, 1000, 10000, 100000, large)
	// Here it would be 100236.
	cells := game(t, "start .../.../... b TTTTT/TTT", "piece T 0: leap 0 2 take", "drops", "plies 9")
	counts(t, cells, 1, 9, 72, 516, 3288, 19020, large)
	// What is too large stays so, even if there is nothing any more behind it.
	put := func(first, second string) api.Rules {
		board := strings.Repeat("......../", 7) + "........"
		return game(t, "start "+board+" w "+first+"/"+second, "piece A 0", "drops", "plies 9")
	}
	counts(t, put("A", "A"), 1, 64, 4032, 0, 0, 0, 0)
	counts(t, put("AA", "A"), 1, 64, 4032, large, large, large, large)
}

func TestDepthsOutOfRange(t *testing.T) {
	r, p := fine()
	for _, depth := range []int{math.MinInt, -1, 7, 8, math.MaxInt} {
		if n, e := moves.Count(r, p, depth); n != 0 || e != api.ErrRange {
			t.Error(strconv.Itoa(depth), n, e)
		}
	}
}
