package moves_test

import (
	"strings"
	"testing"

	"parlour/api"
	"parlour/moves"
)

// outcomeOf is that of a position on which both sides can move.
func outcomeOf(t *testing.T, position string, lines ...string) int {
	t.Helper()
	all := append([]string{"start " + position, "piece A 1: leap 0 1", "piece B 1: slide 1 1", "piece C 1"}, lines...)
	r := game(t, append(all, "plies 9")...)
	o, e := moves.Outcome(r, r.Start)
	if e != api.OK {
		t.Error(position, lines, e)
	}
	return o
}

func TestLose(t *testing.T) {
	for _, x := range []struct {
		position string
		want     int
	}{
		{"A../..a w -/-", api.Open},
		{"A../..a b -/-", api.Open},
		{"A.B/..b w -/-", api.First},
		{"A.B/..b b -/-", api.First},
		{"B../a.b w -/-", api.Second},
		{"B../a.b b -/-", api.Second},
		// If both have none, it is lost by the one whose turn it is.
		{"B../..b w -/-", api.Second},
		{"B../..b b -/-", api.First},
		{"... w -/-", api.Second},
		// What is in the hand is not on the board.
		{"B../a.. w A/-", api.Second},
		{"A../b.. b A/A", api.First},
	} {
		if o := outcomeOf(t, x.position, "drops", "lose A"); o != x.want {
			t.Error(x.position, o)
		}
		if o := outcomeOf(t, x.position, "drops", "lose A", "line 2", "reach C", "stuck"); o != x.want {
			t.Error(x.position, "with more rules:", o)
		}
	}
}

func TestLine(t *testing.T) {
	for _, x := range []struct {
		position string
		line     string
		want     int
	}{
		{"AA./a.. w -/-", "line 3", api.Open},
		{"AAA/a.. w -/-", "line 3", api.First},
		{"AAA/a.. b -/-", "line 3", api.First},
		{"aa./aaa w -/-", "line 3", api.Second},
		{"aa./aaa b -/-", "line 3", api.Second},
		// Any pieces of one player will do, and more of them than asked for.
		{"ABC/a.. w -/-", "line 3", api.First},
		{"CCBA/.... b -/-", "line 3", api.First},
		{"ABa/.A. b -/-", "line 3", api.Open},
		{"AAaAA w -/-", "line 3", api.Open},
		{"AA.AA w -/-", "line 3", api.Open},
		{".a./.b./.c. w -/-", "line 3", api.Second},
		{"a../.a./..a w -/-", "line 3", api.Second},
		{"..a/.a./a.. w -/-", "line 3", api.Second},
		{"..a/.A./a.. w -/-", "line 3", api.Open},
		{"....../...A../....A./.....A w -/-", "line 3", api.First},
		{"....../..A.../.A..../A..... w -/-", "line 3", api.First},
		// A line does not go on from one row's end at the other one's beginning.
		{".AA/A.. w -/-", "line 3", api.Open},
		{"..A/AA. w -/-", "line 3", api.Open},
		{"..A./A.../.A.. w -/-", "line 3", api.Open},
		{"A.../...A/..A. w -/-", "line 3", api.Open},
		{"AAAAAAA. w -/-", "line 8", api.Open},
		{"AAAAAAAA w -/-", "line 8", api.First},
		{"a/a/a/a/a/a/a/a w -/-", "line 8", api.Second},
		{"A. w -/-", "line 2", api.Open},
		{"A./.A w -/-", "line 2", api.First},
		// If both have one, it is won by the one whose turn it is not.
		{"AAA/aaa w -/-", "line 3", api.Second},
		{"AAA/aaa b -/-", "line 3", api.First},
		{"aaa/AAA w -/-", "line 3", api.Second},
	} {
		if o := outcomeOf(t, x.position, x.line); o != x.want {
			t.Error(x.position, x.line, o)
		}
		if o := outcomeOf(t, x.position); o != api.Open && o != api.Draw {
			t.Error(x.position, o)
		}
	}
}

func TestReach(t *testing.T) {
	for _, x := range []struct {
		position string
		want     int
	}{
		{".../A../... w -/-", api.Open},
		{"..A/.../... w -/-", api.First},
		{"A../.../... b -/-", api.First},
		{".../.../a.. w -/-", api.Second},
		{".../.../..a b -/-", api.Second},
		// Neither one's own first row nor another piece is enough.
		{"a../.../..A w -/-", api.Open},
		{"a../.../..A b -/-", api.Open},
		{"BBB/.../bbb w -/-", api.Open},
		{"ABB/.../bba w -/-", api.Second},
		{"ABB/.../bba b -/-", api.First},
		// One row is the last one of both.
		{"Aa. w -/-", api.Second},
		{"Aa. b -/-", api.First},
		{"A.b w -/-", api.First},
	} {
		if o := outcomeOf(t, x.position, "reach A"); o != x.want {
			t.Error(x.position, o)
		}
	}
}

func TestNowhereToGo(t *testing.T) {
	for _, x := range []struct {
		position string
		drops    bool
		stuck    bool
		want     int
	}{
		{"C../..a w -/-", false, false, api.Draw},
		{"C../..a w -/-", false, true, api.Second},
		{"A../..c b -/-", false, false, api.Draw},
		{"A../..c b -/-", false, true, api.First},
		{"C../..a b -/-", false, true, api.Open},
		{"... w -/-", false, false, api.Draw},
		{"... w -/-", true, true, api.Second},
		// One's own pieces all round.
		{"AC/CC w -/-", false, true, api.Second},
		{"AC/cC w -/-", false, true, api.Open},
		// Something to put, if it can be put.
		{"C.. w C/-", true, true, api.Open},
		{"C.. w C/-", false, true, api.Second},
		{"C.. w -/C", true, true, api.Second},
		{"Ccc w C/C", true, true, api.Second},
		{"Ccc b C/C", true, false, api.Draw},
		{"Cac b C/C", true, false, api.Open},
	} {
		var lines []string
		if x.drops {
			lines = append(lines, "drops")
		}
		if x.stuck {
			lines = append(lines, "stuck")
		}
		if o := outcomeOf(t, x.position, lines...); o != x.want {
			t.Error(x, o)
		}
	}
}

// Of what holds at once that counts which the document says first.
func TestOrderOfOutcomes(t *testing.T) {
	for _, x := range []struct {
		position, lines string
		want            int
	}{
		{"CCC/..a w -/-", "lose A,line 3", api.Second},
		{"CCC/..a w -/-", "line 3", api.First},
		{"bbb/A../... b -/-", "lose A,line 3", api.First},
		{"..B/ccc/..b w -/-", "line 3,reach B", api.Second},
		{"..B/cc./... w -/-", "line 3,reach B", api.First},
		{"..B/ccc/... b -/-", "line 3,reach B", api.Second},
		{"..C/.../..a w -/-", "reach C,stuck", api.First},
		{"..C/.../..a w -/-", "stuck", api.Second},
		{"C../CC./..a w -/-", "line 2,stuck", api.First},
		{"A../c../... b -/-", "lose A,stuck", api.First},
		{"..C/.../a.. w -/-", "lose A,reach C", api.Second},
		{"..C/.../... w -/-", "lose A,line 2,reach C,stuck", api.Second},
	} {
		if o := outcomeOf(t, x.position, strings.Split(x.lines, ",")...); o != x.want {
			t.Error(x, o)
		}
	}
}
