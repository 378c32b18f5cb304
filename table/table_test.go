package table_test

import (
	"math"
	"reflect"
	"slices"
	"strconv"
	"strings"
	"testing"
	"unsafe"

	"parlour/api"
	"parlour/board"
	"parlour/moves"
	"parlour/rules"
	"parlour/table"
)

// game is what the lines of a text say.
func game(t *testing.T, lines ...string) api.Rules {
	t.Helper()
	r, f := rules.Read(strings.Join(lines, "\n") + "\n")
	if f.Code != api.OK {
		t.Fatal(lines, f)
	}
	return r
}

func at(t *testing.T, text string) api.Position {
	t.Helper()
	p, f := board.Read(text)
	if f.Code != api.OK {
		t.Fatal(text, f)
	}
	return p
}

func made(t *testing.T, r api.Rules) []api.Entry {
	t.Helper()
	l, e := table.Make(r, api.MaxTable)
	if e != api.OK {
		t.Fatal(r.Start, e)
	}
	return l
}

// tell writes an entry so: position, value, Dist.
func tell(x api.Entry) string {
	s, _ := board.Write(x.Pos)
	values := map[int]string{api.Win: "win", api.Loss: "loss", api.Even: "even"}
	return s + " " + values[x.Value] + " " + strconv.Itoa(x.Dist)
}

// tells checks a whole table, entry by entry.
func tells(t *testing.T, r api.Rules, want ...string) {
	t.Helper()
	var got []string
	for _, x := range made(t, r) {
		got = append(got, tell(x))
	}
	if !slices.Equal(got, want) {
		t.Errorf("%s:\n%s\nnot\n%s", r.Start.Cells, strings.Join(got, "\n"), strings.Join(want, "\n"))
	}
}

// kings want to take each other, but can go back, too.
func kings(t *testing.T) api.Rules {
	return game(t, "start K..k w -/-", "piece K 3: leap 0 1", "lose K", "plies 1")
}

func hexapawn(t *testing.T) api.Rules {
	return game(t, "start ppp/.../PPP w -/-", "piece P 1: step 0 1 quiet, step 1 1 take", "reach P", "stuck", "plies 9")
}

func noughts(t *testing.T, start string) api.Rules {
	return game(t, "start "+start, "piece X 0", "drops", "line 3", "plies 9")
}

func TestWholeTables(t *testing.T) {
	tells(t, kings(t),
		"..K. b -/- loss 0",
		".K.. b -/- loss 0",
		".K.k b -/- loss 2",
		".Kk. w -/- win 1",
		"K..k w -/- win 3",
		// The one of its two moves that holds out longer leads back to the start.
		"K.k. b -/- loss 4",
		"Kk.. w -/- win 1")
	tells(t, game(t, "start K.k w -/-", "piece K 3: leap 0 1", "lose K", "plies 9"),
		".Kk b -/- win 1",
		".k. w -/- loss 0",
		"K.k w -/- loss 2")
	tells(t, game(t, "start .p/../../P. w -/-", "piece P 0: step 0 1", "reach P", "plies 9"),
		"../Pp/../.. b -/- loss 2",
		"P./../.p/.. b -/- loss 0",
		"../P./.p/.. w -/- win 1",
		".p/../P./.. b -/- loss 4",
		"../.p/P./.. w -/- win 3",
		".p/../../P. w -/- win 5")
}

// What is put down first is of no matter: the hands differ, and so do the
// positions.
func TestHandsAreOfThePosition(t *testing.T) {
	tells(t, game(t, "start . w AB/A", "piece A 0", "piece B 0", "drops", "plies 9"),
		". w AB/A even 0",
		"A b B/A even 0",
		"B b A/A even 0")
	// A piece that is taken is in a hand or, without Drops, is gone.
	lines := []string{"piece A 0: step 1 0", "piece B 0", "plies 9"}
	tells(t, game(t, append([]string{"start Ab w -/-"}, lines...)...),
		".A b -/- even 0",
		"Ab w -/- even 0")
	tells(t, game(t, "start Ab w -/-", "piece A 0: step 1 0 take", "piece B 0", "drops", "plies 9"),
		".A b B/- even 0",
		"Ab w -/- even 0")
}

// Positions that differ in nothing but a hand are told by the hand's bytes,
// the first one's ahead of the second one's. The full hand has no room for what
// it takes, so what is taken is lost, and what is left shows what was put.
func TestOrderOfHands(t *testing.T) {
	lines := []string{"piece A 0: step 1 0", "piece B 0", "piece C 0", "drops", "stuck", "plies 9"}
	tells(t, game(t, append([]string{"start A. b AAAAAAAA/BC"}, lines...)...),
		".A b AAAAAAAA/B loss 2",
		".A b AAAAAAAA/C loss 2",
		"A. b AAAAAAAA/- loss 0",
		"A. b AAAAAAAA/BC loss 4",
		"Ab w AAAAAAAA/C win 3",
		"Ac w AAAAAAAA/B win 3",
		"bA w AAAAAAAA/- win 1",
		"cA w AAAAAAAA/- win 1")
	tells(t, game(t, append([]string{"start a. w BC/AAAAAAAA"}, lines...)...),
		".a w B/AAAAAAAA loss 2",
		".a w C/AAAAAAAA loss 2",
		"Ba b -/AAAAAAAA win 1",
		"Ca b -/AAAAAAAA win 1",
		"a. w -/AAAAAAAA loss 0",
		"a. w BC/AAAAAAAA loss 4",
		"aB b C/AAAAAAAA win 3",
		"aC b B/AAAAAAAA win 3")
}

func TestEnds(t *testing.T) {
	for _, x := range []struct{ start, rule, want string }{
		// Each start is over: none of the moves that could be made is made.
		{"K. w -/-", "lose K", "win 0"}, {"K. b -/-", "lose K", "loss 0"}, {".k w -/-", "lose K", "loss 0"}, {".k b -/-", "lose K", "win 0"},
		{".. w -/-", "lose K", "loss 0"}, {".. b -/-", "lose K", "loss 0"},
		{"KK.k w -/-", "line 2", "win 0"}, {"KK.k b -/-", "line 2", "loss 0"}, {"kk.K w -/-", "line 2", "loss 0"}, {"kk.K b -/-", "line 2", "win 0"},
		{"KK.kk w -/-", "line 2", "loss 0"}, {"KK.kk b -/-", "line 2", "loss 0"},
		{"K./.k w -/-", "reach K", "loss 0"}, {"K./.k b -/-", "reach K", "loss 0"}, {"K./k. b -/-", "reach K", "loss 0"},
		{"K./.. w -/-", "reach K", "win 0"}, {"K./.. b -/-", "reach K", "loss 0"}, {"../.k w -/-", "reach K", "loss 0"}, {"../.k b -/-", "reach K", "win 0"},
		{".. w -/-", "stuck", "loss 0"}, {".. b -/-", "stuck", "loss 0"}, {"KK w -/-", "stuck", "loss 0"}, {".k w -/-", "stuck", "loss 0"}, {"K. b -/-", "stuck", "loss 0"},
		{".. w -/-", "", "even 0"}, {".. b -/-", "", "even 0"}, {"KK w -/-", "", "even 0"}, {".k w -/-", "", "even 0"}, {"K. b -/-", "", "even 0"},
		{".. w K/K", "", "even 0"},
	} {
		lines := []string{"start " + x.start, "piece K 0: leap 0 1"}
		if x.rule != "" {
			lines = append(lines, x.rule)
		}
		tells(t, game(t, append(lines, "plies 9")...), x.start+" "+x.want)
	}
}

func TestOneMoveAheadOfTheEnd(t *testing.T) {
	step := "piece K 0: step 1 0"
	tells(t, game(t, "start K. w -/-", step, "stuck", "plies 9"), ".K b -/- loss 0", "K. w -/- win 1")
	tells(t, game(t, "start K. w -/-", step, "plies 9"), ".K b -/- even 0", "K. w -/- even 0")
	tells(t, game(t, "start .k b -/-", step, "stuck", "plies 9"), ".k b -/- win 1", "k. w -/- loss 0")
}

// walkers are all positions of two who go to and fro in rows of their own.
func walkers() []string {
	var l []string
	for _, bottom := range []string{"..k", ".k.", "k.."} {
		for _, top := range []string{"..K", ".K.", "K.."} {
			for _, turn := range []string{"w", "b"} {
				// Each move is from the middle or to it: whose turn it is shows in how
				// many of the two are there.
				if odd := (bottom == ".k.") != (top == ".K."); odd == (turn == "b") {
					l = append(l, top+"/"+bottom+" "+turn+" -/- even 0")
				}
			}
		}
	}
	return l
}

func TestGamesThatGoRound(t *testing.T) {
	tells(t, game(t, "start K../k.. w -/-", "piece K 0: step 1 0", "stuck", "plies 9"), walkers()...)
	quiet := game(t, "start K.k w -/-", "piece K 0: leap 0 1 quiet", "plies 9")
	tells(t, quiet, ".Kk b -/- even 0", "K.k w -/- even 0")
	quiet.Stuck = true
	tells(t, quiet, ".Kk b -/- loss 0", "K.k w -/- win 1")
	for _, start := range []string{"K...k w -/-", "K....k w -/-", "K.../...k w -/-"} {
		r := game(t, "start "+start, "piece K 0: leap 0 1 quiet", "plies 1")
		for _, e := range made(t, r) {
			if e.Value != api.Even || e.Dist != 0 {
				t.Error(tell(e))
			}
		}
	}
	// There is more than one kind in one table, round and round or not.
	round := game(t, "start k../.../..K w -/-", "piece K 0: leap 0 1, leap 1 1", "lose K", "plies 9")
	var kinds [4]int
	for _, e := range made(t, round) {
		kinds[e.Value]++
		if e.Pos == round.Start && e.Value != api.Even {
			t.Error(tell(e))
		}
	}
	if kinds[api.Win] == 0 || kinds[api.Loss] == 0 || kinds[api.Even] == 0 || kinds[0] != 0 {
		t.Error(kinds)
	}
}

// valueOf is what the table says of the start.
func valueOf(t *testing.T, r api.Rules) int {
	t.Helper()
	for _, x := range made(t, r) {
		if x.Pos == r.Start {
			return x.Value
		}
	}
	t.Fatal("no entry of", r.Start)
	return 0
}

// What these games are worth has long been known.
func TestKnownGames(t *testing.T) {
	if v := valueOf(t, hexapawn(t)); v != api.Loss {
		t.Error("hexapawn:", v)
	}
	for start, want := range map[string]int{
		"X../.../... b XXXX/XXXX": api.Even,
		"X../.x./... w XXXX/XXX":  api.Even,
		"Xx./.../... w XXXX/XXX":  api.Win,
		"X.x/.../... w XXXX/XXX":  api.Win,
		"X../..x/... w XXXX/XXX":  api.Win,
		"X../.../..x w XXXX/XXX":  api.Win,
		".x./.X./... w XXXX/XXX":  api.Win,
		"x../.X./... w XXXX/XXX":  api.Even,
		"Xx./.X./... b XXX/XXX":   api.Loss,
	} {
		if v := valueOf(t, noughts(t, start)); v != want {
			t.Error(start, v)
		}
	}
}

// largest has 5000 positions, or 5001: P has five places at the top, the four
// pieces of the other player have 5, 5, 5 and 4, and it may be the turn of
// either; if P is at first one row below, that is one more, to which nothing
// leads back.
func largest(t *testing.T, top, below string) api.Rules {
	sideways := "step 1 0 quiet, step 2 0 quiet, step 3 0 quiet, step 4 0 quiet"
	return game(t, "start "+top+"/"+below+"/r..../r..../r..../r...X w -/-",
		"piece P 0: step 0 1 quiet, "+sideways, "piece R 0: "+sideways, "piece X 0", "plies 9")
}

func TestHowManyThereMayBe(t *testing.T) {
	for _, x := range []struct {
		name string
		r    api.Rules
		n    int
	}{
		{"over", game(t, "start . w -/-", "piece K 0", "plies 9"), 1},
		{"one move", game(t, "start K. w -/-", "piece K 0: step 1 0", "plies 9"), 2},
		{"kings", kings(t), 7},
		{"largest", largest(t, "..P..", "XX.XX"), 5000},
		{"one too many", largest(t, ".....", "XXPXX"), 5001},
		// So many there are of noughts and crosses.
		{"noughts", noughts(t, ".../.../... w XXXXX/XXXX"), 5478},
	} {
		for _, most := range []int{1, 2, 3, 6, 7, 8, x.n - 1, x.n, x.n + 1, 4999, 5000} {
			if most < 1 || most > 5000 {
				continue
			}
			l, e := table.Make(x.r, most)
			if x.n <= most && (len(l) != x.n || e != api.OK) || x.n > most && (l != nil || e != api.ErrLarge) {
				t.Error(x.name, most, len(l), e)
			}
		}
		for _, most := range []int{math.MinInt, -5000, -1, 0, 5001, 5478, math.MaxInt} {
			if l, e := table.Make(x.r, most); l != nil || e != api.ErrArg {
				t.Error(x.name, most, len(l), e)
			}
		}
	}
}

func wrongRules() map[string]func(r *api.Rules) {
	return map[string]func(r *api.Rules){
		"zero":               func(r *api.Rules) { *r = api.Rules{} },
		"no start":           func(r *api.Rules) { r.Start = api.Position{} },
		"turn 2":             func(r *api.Rules) { r.Start.Turn = 2 },
		"cells missing":      func(r *api.Rules) { r.Start.Cells = "K." },
		"letter of no piece": func(r *api.Rules) { r.Start.Cells = "K..q" },
		"hand of no piece":   func(r *api.Rules) { r.Start.Hands[1] = "Q" },
		"no pieces":          func(r *api.Rules) { r.Pieces = nil },
		"piece twice":        func(r *api.Rules) { r.Pieces = append(r.Pieces, r.Pieces[0]) },
		"way to nowhere":     func(r *api.Rules) { r.Pieces[0].Ways = []api.Way{{Kind: api.Slide}} },
		"way of no kind":     func(r *api.Rules) { r.Pieces[0].Ways = []api.Way{{Kind: 4, Y: 1}} },
		"lose what is none":  func(r *api.Rules) { r.Lose = 'Q' },
		"reach what is none": func(r *api.Rules) { r.Reach = 'Q' },
		"line of one":        func(r *api.Rules) { r.Line = 1 },
		"no plies":           func(r *api.Rules) { r.Plies = 0 },
		"plies too many":     func(r *api.Rules) { r.Plies = 1001 },
	}
}

func TestWrongRules(t *testing.T) {
	right := kings(t)
	l := made(t, right)
	for name, spoil := range wrongRules() {
		r := kings(t)
		spoil(&r)
		for _, most := range []int{math.MinInt, 0, 1, 100, 5000, 5001, math.MaxInt} {
			if l, e := table.Make(r, most); l != nil || e != api.ErrArg {
				t.Error(name, "Make:", l, e)
			}
		}
		// That is said ahead of anything that is absent.
		for _, p := range []api.Position{right.Start, l[0].Pos, {}, {W: 4, H: 1, Cells: "KKKK"}} {
			for _, given := range [][]api.Entry{l, nil} {
				if m, e := table.Best(r, given, p); m != (api.Move{}) || e != api.ErrArg {
					t.Error(name, "Best:", m, e)
				}
			}
		}
	}
}

// How many moves a game may have in the house says nothing here.
func TestPliesSayNothing(t *testing.T) {
	one, many := kings(t), kings(t)
	one.Plies, many.Plies = 1, 1000
	if !slices.Equal(made(t, one), made(t, many)) {
		t.Error(made(t, one), made(t, many))
	}
}

// shares leaves out texts of one byte: the language keeps those in a place of
// its own.
func shares(a, b string) bool {
	if len(a) < 2 || len(b) < 2 {
		return false
	}
	from, to := uintptr(unsafe.Pointer(unsafe.StringData(a))), uintptr(unsafe.Pointer(unsafe.StringData(b)))
	return from < to+uintptr(len(b)) && to < from+uintptr(len(a))
}

func texts(p api.Position) []string { return []string{p.Cells, p.Hands[0], p.Hands[1]} }

func TestAnswersAreNewMemory(t *testing.T) {
	r := game(t, "start Ab./... w AAB/BB", "piece A 0: step 1 0", "piece B 0", "drops", "line 2", "plies 9")
	l := made(t, r)
	all := texts(r.Start)
	for _, x := range l {
		for _, s := range texts(x.Pos) {
			for _, other := range all {
				if shares(s, other) {
					t.Fatal(s, "is memory of something else")
				}
			}
		}
		all = append(all, texts(x.Pos)...)
	}
	want := slices.Clone(l)
	clear(l[:cap(l)])
	if !slices.Equal(made(t, r), want) || len(want) < 10 {
		t.Error("it is not answered again:", want)
	}
}

func TestWhatIsHandedInStays(t *testing.T) {
	r := kings(t)
	spare := append(r.Pieces, api.Piece{Letter: 'S', Worth: 7})
	r.Pieces = spare[:1]
	ways := append(r.Pieces[0].Ways, api.Way{Kind: 9}, api.Way{Kind: 10})
	r.Pieces[0].Ways = ways[:1]
	before, after := slices.Clone(spare), slices.Clone(ways)
	l := made(t, r)
	room := append(slices.Clone(l), slices.Repeat([]api.Entry{{Value: 77}}, 9)...)
	kept := slices.Clone(room)
	for _, x := range l {
		table.Best(r, room[:len(l)], x.Pos)
	}
	if !reflect.DeepEqual(spare, before) || !slices.Equal(ways, after) || !slices.Equal(room, kept) {
		t.Error(spare, ways, room)
	}
}

// onward is the position behind a move that is told as a text.
func onward(t *testing.T, r api.Rules, p api.Position, text string) api.Position {
	t.Helper()
	m, e := moves.Read(r, p, text)
	if e != api.OK {
		t.Fatal(p, text, e)
	}
	q, _ := moves.Apply(r, p, m)
	return q
}
