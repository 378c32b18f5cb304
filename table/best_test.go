package table_test

import (
	"math"
	"slices"
	"testing"

	"parlour/api"
	"parlour/moves"
	"parlour/table"
)

// best checks the text of the best move, empty where it is absent.
func best(t *testing.T, r api.Rules, l []api.Entry, p api.Position, want string) {
	t.Helper()
	m, e := table.Best(r, l, p)
	if want == "" {
		if m != (api.Move{}) || e != api.ErrAbsent {
			t.Errorf("%v: %v %v", p, m, e)
		}
		return
	}
	if s, _ := moves.Text(r, p, m); s != want || e != api.OK {
		t.Errorf("%v: %v (%s) %v, not %s", p, m, s, e, want)
	}
}

func TestBestOfEachValue(t *testing.T) {
	r := kings(t)
	l := made(t, r)
	for position, want := range map[string]string{
		"K..k w -/-": "Ka1-b1", ".K.k b -/-": "Kd1-c1", "Kk.. w -/-": "Ka1xb1",
		// The nearest win, which is not the first move.
		".Kk. w -/-": "Kb1xc1",
		// The farthest loss, which is not the first move.
		"K.k. b -/-": "Kc1-d1",
		// Over.
		"..K. b -/-": "", ".K.. b -/-": "",
	} {
		best(t, r, l, at(t, position), want)
	}
	// Even: the first move that is not to something won or lost.
	even := noughts(t, "X../.../... b XXXX/XXXX")
	best(t, even, made(t, even), even.Start, "X@b2")
	best(t, even, made(t, even), onward(t, even, even.Start, "X@b2"), "X@a1")
	round := game(t, "start K...k w -/-", "piece K 0: leap 0 1 quiet", "plies 9")
	best(t, round, made(t, round), round.Start, "Ka1-b1")
	best(t, round, made(t, round), at(t, ".K..k b -/-"), "Ke1-d1")
	best(t, round, made(t, round), at(t, ".K.k. w -/-"), "Kb1-a1")
}

func TestBestOfWhatIsAbsent(t *testing.T) {
	r := kings(t)
	l := made(t, r)
	var wrong []api.Entry
	for _, p := range []api.Position{
		{},
		{W: 4, H: 1, Cells: "K..k", Turn: 2},
		{W: 4, H: 1, Cells: "K..k", Turn: -1},
		{W: 4, H: 1, Cells: "K.k"},
		{W: 4, H: 1, Cells: "K..kk"},
		{W: 4, H: 1, Cells: "K..q"},
		{W: 4, H: 1, Cells: "K..1"},
		{W: 4, H: 1, Cells: "K..k", Hands: [2]string{"Q", ""}},
		{W: 4, H: 1, Cells: "K..k", Hands: [2]string{"", "KKKKKKKKK"}},
		{W: 1, H: 4, Cells: "K..k"},
		{W: 2, H: 2, Cells: "K..k"},
		{W: 3, H: 1, Cells: "K.k"},
		{W: 5, H: 1, Cells: "K...k"},
		{W: -4, H: -1, Cells: "K..k"},
		{W: math.MaxInt, H: math.MaxInt},
		// These are of the rules, but no moves lead there.
		{W: 4, H: 1, Cells: "K..k", Turn: 1},
		{W: 4, H: 1, Cells: "k..K"},
		{W: 4, H: 1, Cells: "K..k", Hands: [2]string{"K", ""}},
		{W: 4, H: 1, Cells: "K..k", Hands: [2]string{"", "K"}},
	} {
		best(t, r, l, p, "")
		// An entry of it alone does not help.
		for _, value := range []int{api.Win, api.Loss, api.Even} {
			best(t, r, append(l, api.Entry{Pos: p, Value: value, Dist: 1}), p, "")
			wrong = append(wrong, api.Entry{Pos: p, Value: value, Dist: 1})
		}
	}
	for _, given := range [][]api.Entry{nil, {}, wrong} {
		best(t, r, given, r.Start, "")
	}
	// What is said of other positions is of no matter.
	best(t, r, append(wrong, l...), r.Start, "Ka1-b1")
}

// It does not help an entry to say of a position that is not Open what would
// be so if it were.
func TestBestBehindTheEnd(t *testing.T) {
	r := game(t, "start K. w -/-", "piece K 0: leap 0 1", "lose K", "plies 9")
	for _, x := range [][2]int{{api.Win, api.Loss}, {api.Loss, api.Win}, {api.Even, api.Even}} {
		l := []api.Entry{{Pos: r.Start, Value: x[0], Dist: 1}, {Pos: at(t, ".K b -/-"), Value: x[1]}}
		best(t, r, l, r.Start, "")
		open := r
		open.Lose = 0
		best(t, open, l, r.Start, "Ka1-b1")
	}
}

func TestBestIsTheFirst(t *testing.T) {
	r := game(t, "start .K. w -/-", "piece K 0: leap 0 1", "stuck", "plies 9")
	l := made(t, r)
	best(t, r, l, r.Start, "Kb1-a1")
	for _, x := range [][2]int{{api.Win, api.Loss}, {api.Loss, api.Win}, {api.Even, api.Even}} {
		here := api.Entry{Pos: r.Start, Value: x[0], Dist: 7}
		left := api.Entry{Pos: at(t, "K.. b -/-"), Value: x[1], Dist: 6}
		right := api.Entry{Pos: at(t, "..K b -/-"), Value: x[1], Dist: 6}
		best(t, r, []api.Entry{here, left, right}, r.Start, "Kb1-a1")
		best(t, r, []api.Entry{right, left, here}, r.Start, "Kb1-a1")
		// An entry that is missing makes the next move the first one.
		best(t, r, []api.Entry{here, right}, r.Start, "Kb1-c1")
		best(t, r, []api.Entry{left, here}, r.Start, "Kb1-a1")
		best(t, r, []api.Entry{left, right}, r.Start, "")
		best(t, r, []api.Entry{here}, r.Start, "")
		// So does one that says something else, whatever a later one says.
		for _, value := range []int{0, -1, 4, math.MaxInt, api.Win, api.Loss, api.Even} {
			if value == x[1] {
				continue
			}
			other := left
			other.Value = value
			best(t, r, []api.Entry{here, other, left, right}, r.Start, "Kb1-c1")
			best(t, r, []api.Entry{here, other, left}, r.Start, "")
			best(t, r, []api.Entry{here, left, other, right}, r.Start, "Kb1-a1")
		}
		// Of the position itself it is the first entry that counts, too.
		for _, value := range []int{0, -1, 4, math.MinInt} {
			other := here
			other.Value = value
			best(t, r, []api.Entry{other, here, left, right}, r.Start, "")
			best(t, r, []api.Entry{here, other, left, right}, r.Start, "Kb1-a1")
		}
	}
}

func TestBestLooksAtDist(t *testing.T) {
	r := game(t, "start .K. w -/-", "piece K 0: leap 0 1", "stuck", "plies 9")
	for _, x := range [][2]int{{api.Win, api.Loss}, {api.Loss, api.Win}} {
		for _, d := range []struct {
			here, left, right int
			want              string
		}{
			{1, 0, 0, "Kb1-a1"}, {1, 2, 0, "Kb1-c1"}, {1, 1, 0, "Kb1-c1"}, {3, 0, 2, "Kb1-c1"}, {3, 4, 2, "Kb1-c1"}, {5, 4, 2, "Kb1-a1"},
			{1, 1, 1, ""}, {1, 2, 2, ""}, {3, 0, 1, ""}, {2, 3, 4, ""}, {0, 0, 0, ""}, {0, 1, 1, ""},
			// There is no number that is one less than the least one.
			{math.MinInt, math.MaxInt, math.MaxInt, ""}, {math.MinInt, math.MinInt, math.MinInt, ""}, {math.MaxInt, math.MinInt, math.MaxInt - 1, "Kb1-c1"},
		} {
			l := []api.Entry{
				{Pos: r.Start, Value: x[0], Dist: d.here},
				{Pos: at(t, "K.. b -/-"), Value: x[1], Dist: d.left},
				{Pos: at(t, "..K b -/-"), Value: x[1], Dist: d.right},
			}
			best(t, r, l, r.Start, d.want)
			// A Win does not lead to a Win, nor a Loss to a Loss.
			l[1].Value = x[0]
			if d.want == "Kb1-a1" {
				l[2].Dist = d.here + 1
				best(t, r, l, r.Start, "")
			}
		}
	}
}

// Who follows the table comes to the end as soon as it says, and who wins is
// who it says.
func TestFollowed(t *testing.T) {
	for _, r := range []api.Rules{kings(t), hexapawn(t), noughts(t, "Xx./.../... w XXXX/XXX"), noughts(t, "X../.x./... w XXXX/XXX")} {
		l := made(t, r)
		for _, x := range l {
			p, n := x.Pos, 0
			for x.Value != api.Even && n <= x.Dist {
				m, e := table.Best(r, l, p)
				if e != api.OK {
					break
				}
				p, _ = moves.Apply(r, p, m)
				n++
			}
			winner := []int{api.First, api.Second}[p.Turn]
			if (x.Value == api.Loss) == (n%2 == 0) {
				winner = []int{api.Second, api.First}[p.Turn]
			}
			if o, _ := moves.Outcome(r, p); x.Value != api.Even && (n != x.Dist || o != winner) {
				t.Fatalf("%s: after %d moves %+v, outcome %d", tell(x), n, p, o)
			}
		}
	}
}

// An entry that is taken away or spoiled is missed by all that need it, and by
// nobody else: slowBest says who does.
func TestSpoiledTables(t *testing.T) {
	r := hexapawn(t)
	whole := made(t, r)
	for i := range whole {
		less := slices.Delete(slices.Clone(whole), i, i+1)
		spoiled := slices.Clone(whole)
		spoiled[i].Dist++
		twice := append([]api.Entry{spoiled[i]}, whole...)
		for _, l := range [][]api.Entry{less, spoiled, twice} {
			for _, x := range whole {
				want, ok := slowBest(r, l, x.Pos)
				if m, e := table.Best(r, l, x.Pos); m != want || (e == api.OK) != ok {
					t.Fatalf("%s without %s: %v %v, not %v", tell(x), tell(whole[i]), m, e, want)
				}
			}
		}
	}
}
