package moves_test

import (
	"math"
	"reflect"
	"slices"
	"strings"
	"testing"
	"unsafe"

	"parlour/api"
	"parlour/board"
	"parlour/moves"
	"parlour/rules"
)

// game is what the lines of a text say.
func game(t *testing.T, lines ...string) api.Rules {
	t.Helper()
	r, f := rules.Read(strings.Join(lines, "\n") + "\n")
	if f.Code != api.OK {
		t.Fatal(lines, f)
	}
	return r
}

func at(t *testing.T, text string) api.Position {
	t.Helper()
	p, f := board.Read(text)
	if f.Code != api.OK {
		t.Fatal(text, f)
	}
	return p
}

// told are the texts of all moves, with blanks between.
func told(t *testing.T, r api.Rules, p api.Position) string {
	t.Helper()
	l, e := moves.Moves(r, p)
	if e != api.OK {
		t.Fatal(p, e)
	}
	var texts []string
	for _, m := range l {
		s, e := moves.Text(r, p, m)
		if e != api.OK {
			t.Error(p, m, e)
		}
		texts = append(texts, s)
	}
	return strings.Join(texts, " ")
}

func TestMovesOfEachWay(t *testing.T) {
	for _, x := range []struct{ piece, position, want string }{
		// The document's own example.
		{"piece K 3: leap 0 1", "K../..k w -/-", "Ka2-a1 Ka2-b2"},
		// Leaps, in any directions, over whatever stands between.
		{"piece K 3: leap 0 1", "..../.K../..../.... w -/-", "Kb3-b2 Kb3-a3 Kb3-c3 Kb3-b4"},
		{"piece K 3: leap 1 1", "..../.K../..../.... w -/-", "Kb3-a2 Kb3-c2 Kb3-a4 Kb3-c4"},
		{"piece K 3: leap 1 2", "...../...../..K../...../..... b -/-", ""},
		{"piece K 3: leap 1 2", "kkkkk/.kkkk/kkKkk/k.kkk/..kkk w -/-", "Kc3-b1 Kc3xd1 Kc3xa2 Kc3xe2 Kc3-a4 Kc3xe4 Kc3xb5 Kc3xd5"},
		{"piece K 3: leap 0 7", "......../......../......../......../......../......../......../K......K w -/-", "Ka1-a8 Kh1-h8"},
		{"piece K 3: leap 7 7", "......../......../......../......../......../......../......../K.....K. w -/-", "Ka1-h8"},
		{"piece K 3: leap 3 3", "..../..../.K../.... w -/-", ""},
		// One's own pieces are in the way, the other one's are taken.
		{"piece K 3: leap 0 1", "K.k/KK./k.. w -/-", "Ka2xa1 Kb2-b1 Kb2-c2 Kb2-b3 Ka3-b3"},
		{"piece K 3: leap 0 1 take", "K.k/KK./k.. w -/-", "Ka2xa1"},
		{"piece K 3: leap 0 1 quiet", "K.k/KK./k.. w -/-", "Kb2-b1 Kb2-c2 Kb2-b3 Ka3-b3"},
		{"piece K 3: leap 0 1", "K.k/KK./k.. b -/-", "Ka1-b1 Ka1xa2 Kc3-c2 Kc3-b3"},
		// Slides, up to what is in the way.
		{"piece R 3: slide 0 1", "..r../...../R.R.r/...../..... w -/-", "Ra3-a1 Ra3-a2 Ra3-b3 Ra3-a4 Ra3-a5 Rc3-c1 Rc3-c2 Rc3-b3 Rc3-d3 Rc3xe3 Rc3-c4 Rc3xc5"},
		{"piece R 3: slide 0 1 take", "..r../..r../R.R.r/...../..... w -/-", "Rc3xe3 Rc3xc4"},
		{"piece R 3: slide 0 1 quiet", "..r../..r../R.R.r/...../..... w -/-", "Ra3-a1 Ra3-a2 Ra3-b3 Ra3-a4 Ra3-a5 Rc3-c1 Rc3-c2 Rc3-b3 Rc3-d3"},
		{"piece R 3: slide 1 1", "r.../..r./..../R... w -/-", "Ra1-b2 Ra1xc3"},
		{"piece R 3: slide 1 1", "r.../..R./..../R... w -/-", "Ra1-b2 Rc3-b2 Rc3-d2 Rc3-b4 Rc3-d4"},
		// A slide by a long step leaps over what is not on its way.
		{"piece N 3: slide 1 2", "......../......../......../......../......../......../nnnnnnnn/N....... w -/-", "Na1xc2 Na1-b3 Na1-c5 Na1-d7"},
		{"piece N 3: slide 0 2", "N.n.N.n. w -/-", "Na1xc1 Ne1xc1 Ne1xg1"},
		{"piece N 3: slide 0 3", "Nn.....n w -/-", "Na1-d1 Na1-g1"},
		// Steps: to either side, ahead alone.
		{"piece P 3: step 0 1", ".../.P./... w -/-", "Pb2-b3"},
		{"piece P 3: step 0 1", ".../.p./... b -/-", "Pb2-b1"},
		{"piece P 3: step 1 1", ".../.P./... w -/-", "Pb2-a3 Pb2-c3"},
		{"piece P 3: step 1 1", ".../.p./... b -/-", "Pb2-a1 Pb2-c1"},
		{"piece P 3: step 1 0", ".../.P./... w -/-", "Pb2-a2 Pb2-c2"},
		{"piece P 3: step 2 1", "...../..P../..... w -/-", "Pc2-a3 Pc2-e3"},
		{"piece P 3: step 1 2", "...../..p../...../..... b -/-", "Pc3-b1 Pc3-d1"},
		{"piece P 3: step 0 1 quiet, step 1 1 take", "pp./.PP/... w -/-", "Pb2xa3 Pc2xb3 Pc2-c3"},
		{"piece P 3: step 0 1 quiet, step 1 1 take", "P.P/pP./... b -/-", "Pa2-a1"},
		// At the edge nothing comes round to the other side.
		{"piece P 3: step 1 0", "..P/P.. w -/-", "Pa1-b1 Pc2-b2"},
		{"piece K 3: slide 0 1", ".../..K/... w -/-", "Kc2-c1 Kc2-a2 Kc2-b2 Kc2-c3"},
		// Ways that lead to the same cell are one move.
		{"piece Q 3: leap 0 1, slide 0 1, step 0 1, leap 0 1 quiet", ".Q. w -/-", "Qb1-a1 Qb1-c1"},
		{"piece Q 3: leap 0 1 quiet, leap 0 1 take", ".Qq w -/-", "Qb1-a1 Qb1xc1"},
		{"piece Q 3", ".Q. w -/-", ""},
	} {
		r := game(t, "start "+x.position, x.piece, "plies 9")
		if s := told(t, r, r.Start); s != x.want {
			t.Errorf("%s, %s: %s, not %s", x.piece, x.position, s, x.want)
		}
	}
}

func TestDrops(t *testing.T) {
	lines := []string{"piece A 1", "piece B 1: leap 0 1", "piece C 1", "drops", "plies 9"}
	for _, x := range []struct{ position, want string }{
		{".B/.c w AC/BC", "A@a1 C@a1 A@a2 C@a2 Bb2xb1 Bb2-a2"},
		{".B/.c b AC/BC", "B@a1 C@a1 B@a2 C@a2"},
		// A letter that is several times in the hand is one move.
		{"... w AAABBBCC/-", "A@a1 B@a1 C@a1 A@b1 B@b1 C@b1 A@c1 B@c1 C@c1"},
		{"... b CCCCCCCC/BBBBBBBB", "B@a1 B@b1 B@c1"},
		{".B. w -/ABC", "Bb1-a1 Bb1-c1"},
		{"aCa w A/B", ""},
	} {
		r := game(t, append([]string{"start " + x.position}, lines...)...)
		if s := told(t, r, r.Start); s != x.want {
			t.Errorf("%s: %s, not %s", x.position, s, x.want)
		}
		r.Drops = false
		var ofBoard []string
		for _, s := range strings.Fields(x.want) {
			if s[1] != '@' {
				ofBoard = append(ofBoard, s)
			}
		}
		if s := told(t, r, r.Start); s != strings.Join(ofBoard, " ") {
			t.Errorf("%s without Drops: %s", x.position, s)
		}
	}
}

func TestMovesInNumbers(t *testing.T) {
	r := game(t, "start K.a/..B w AB/B", "piece A 1", "piece B 2: slide 0 1", "piece K 0: leap 0 1", "drops", "plies 9")
	l, e := moves.Moves(r, r.Start)
	want := []api.Move{
		{From: -1, To: 0, Piece: 'A'}, {From: -1, To: 0, Piece: 'B'},
		{From: -1, To: 1, Piece: 'A'}, {From: -1, To: 1, Piece: 'B'},
		{From: -1, To: 4, Piece: 'A'}, {From: -1, To: 4, Piece: 'B'},
		{From: 2, To: 0, Piece: 'B'}, {From: 2, To: 1, Piece: 'B'}, {From: 2, To: 5, Piece: 'B'},
		{From: 3, To: 0, Piece: 'K'}, {From: 3, To: 4, Piece: 'K'},
	}
	if e != api.OK || !slices.Equal(l, want) {
		t.Error(l, e)
	}
}

func TestApply(t *testing.T) {
	lines := []string{"piece A 1: leap 0 1", "piece B 2: step 0 1", "piece Z 0: slide 0 1", "drops", "plies 9"}
	for _, x := range []struct{ position, move, with, without string }{
		{"a../..A w AB/B", "Ac1-b1", "a../.A. b AB/B", "a../.A. b AB/B"},
		{"a../..A b AB/B", "Aa2-a1", ".../a.A w AB/B", ".../a.A w AB/B"},
		// What is taken comes to its place in the taker's hand, as a capital letter.
		{"..b/..B w AZ/B", "Bc1xc2", "..B/... b ABZ/B", "..B/... b AZ/B"},
		{"..b/..B b AZ/Z", "Bc2xc1", ".../..b w AZ/BZ", ".../..b w AZ/Z"},
		{"..z/..B b -/-", "Zc2xc1", ".../..z w -/B", ".../..z w -/-"},
		{"..a/..B w AAAAAAA/-", "Bc1xc2", "..B/... b AAAAAAAA/-", "..B/... b AAAAAAA/-"},
		{"..z/..B w AAAAAAB/-", "Bc1xc2", "..B/... b AAAAAABZ/-", "..B/... b AAAAAAB/-"},
		{"..a/..B w BBBBBBB/-", "Bc1xc2", "..B/... b ABBBBBBB/-", "..B/... b BBBBBBB/-"},
		// With eight letters in the hand it is lost.
		{"..a/..B w BBBBBBBB/-", "Bc1xc2", "..B/... b BBBBBBBB/-", "..B/... b BBBBBBBB/-"},
		{"..a/..B w -/BBBBBBBB", "Bc1xc2", "..B/... b A/BBBBBBBB", "..B/... b -/BBBBBBBB"},
		// Out of the hand comes one, the other ones stay.
		{"..a/..B w ABBZ/B", "B@a1", "..a/B.B b ABZ/B", ""},
		{"..a/..B b ABBZ/BZ", "Z@b2", ".za/..B w ABBZ/B", ""},
		{"..a/..B b ABBZ/B", "B@a2", "b.a/..B w ABBZ/-", ""},
		{"..a/..B w ZZZZZZZZ/B", "Z@a1", "..a/Z.B b ZZZZZZZ/B", ""},
	} {
		r := game(t, append([]string{"start " + x.position}, lines...)...)
		m, e := moves.Read(r, r.Start, x.move)
		if e != api.OK {
			t.Error(x, e)
		}
		if p, e := moves.Apply(r, r.Start, m); p != at(t, x.with) || e != api.OK {
			t.Errorf("%v: %+v %v", x, p, e)
		}
		r.Drops = false
		p, e := moves.Apply(r, r.Start, m)
		if x.without == "" {
			if p != (api.Position{}) || e != api.ErrMove {
				t.Errorf("%v without Drops: %+v %v", x, p, e)
			}
		} else if p != at(t, x.without) || e != api.OK {
			t.Errorf("%v without Drops: %+v %v", x, p, e)
		}
	}
}

// fine has a value in each field that can be spoiled.
func fine() (api.Rules, api.Position) {
	p := api.Position{W: 3, H: 2, Cells: "..kK.p", Hands: [2]string{"PP", "KP"}}
	return api.Rules{
		Start: api.Position{W: 3, H: 2, Cells: "Pp....", Turn: 1},
		Pieces: []api.Piece{
			{Letter: 'K', Worth: 3, Ways: []api.Way{{Kind: api.Leap, Y: 1}, {Kind: api.Slide, X: 1, Y: 1}}},
			{Letter: 'P', Worth: 1, Ways: []api.Way{{Kind: api.Step, Y: 1}}},
		},
		Drops: true,
		Lose:  'K',
		Reach: 'P',
		Plies: 40,
	}, p
}

// wrongPairs are rules and positions that are not of them.
func wrongPairs() map[string]func(r *api.Rules, p *api.Position) {
	return map[string]func(r *api.Rules, p *api.Position){
		"all zero":            func(r *api.Rules, p *api.Position) { *r, *p = api.Rules{}, api.Position{} },
		"no rules":            func(r *api.Rules, p *api.Position) { *r = api.Rules{} },
		"no position":         func(r *api.Rules, p *api.Position) { *p = api.Position{} },
		"wrong start":         func(r *api.Rules, p *api.Position) { r.Start.Turn = 2 },
		"wrong start's cells": func(r *api.Rules, p *api.Position) { r.Start.Cells = "Q....." },
		"no pieces":           func(r *api.Rules, p *api.Position) { r.Pieces = nil },
		"way to nowhere":      func(r *api.Rules, p *api.Position) { r.Pieces[0].Ways[1] = api.Way{Kind: api.Slide} },
		"step to nowhere":     func(r *api.Rules, p *api.Position) { r.Pieces[1].Ways[0] = api.Way{Kind: api.Step} },
		"way of no kind":      func(r *api.Rules, p *api.Position) { r.Pieces[0].Ways[1].Kind = 4 },
		"way too far":         func(r *api.Rules, p *api.Position) { r.Pieces[0].Ways[1].Y = 8 },
		"way too far back":    func(r *api.Rules, p *api.Position) { r.Pieces[0].Ways[1].X = math.MinInt },
		"lose what is none":   func(r *api.Rules, p *api.Position) { r.Lose = 'Q' },
		"reach what is none":  func(r *api.Rules, p *api.Position) { r.Reach = 'Q' },
		"line of one":         func(r *api.Rules, p *api.Position) { r.Line = 1 },
		"line below 0":        func(r *api.Rules, p *api.Position) { r.Line = -1 },
		"no plies":            func(r *api.Rules, p *api.Position) { r.Plies = 0 },
		"other columns":       func(r *api.Rules, p *api.Position) { p.W, p.Cells = 4, "..kK.p.." },
		"fewer rows":          func(r *api.Rules, p *api.Position) { p.H, p.Cells = 1, ".kK" },
		"more rows":           func(r *api.Rules, p *api.Position) { p.H, p.Cells = 3, "..kK.p..." },
		"turned round":        func(r *api.Rules, p *api.Position) { p.W, p.H = 2, 3 },
		"cells missing":       func(r *api.Rules, p *api.Position) { p.Cells = "..kK." },
		"cells too many":      func(r *api.Rules, p *api.Position) { p.Cells = "..kK.p." },
		"cell of no letter":   func(r *api.Rules, p *api.Position) { p.Cells = "..kK.1" },
		"letter of no piece":  func(r *api.Rules, p *api.Position) { p.Cells = "..kK.Q" },
		"small one of none":   func(r *api.Rules, p *api.Position) { p.Cells = "..kK.q" },
		"turn 2":              func(r *api.Rules, p *api.Position) { p.Turn = 2 },
		"turn -1":             func(r *api.Rules, p *api.Position) { p.Turn = -1 },
		"hand of no piece":    func(r *api.Rules, p *api.Position) { p.Hands[0] = "PQ" },
		"other of no piece":   func(r *api.Rules, p *api.Position) { p.Hands[1] = "A" },
		"no drops, no piece":  func(r *api.Rules, p *api.Position) { r.Drops, p.Hands[1] = false, "A" },
		"small in hand":       func(r *api.Rules, p *api.Position) { p.Hands[0] = "p" },
		"hand falls":          func(r *api.Rules, p *api.Position) { p.Hands[0] = "PK" },
		"hand of nine":        func(r *api.Rules, p *api.Position) { p.Hands[1] = "PPPPPPPPP" },
	}
}

func TestWrongPairs(t *testing.T) {
	if r, p := fine(); told(t, r, p) == "" {
		t.Error("nothing to spoil")
	}
	for name, spoil := range wrongPairs() {
		r, p := fine()
		spoil(&r, &p)
		if l, e := moves.Moves(r, p); l != nil || e != api.ErrArg {
			t.Error(name, "Moves:", l, e)
		}
		if l, next, e := moves.Next(r, p); l != nil || next != nil || e != api.ErrArg {
			t.Error(name, "Next:", l, next, e)
		}
		for _, m := range []api.Move{{}, {From: 3, To: 4, Piece: 'K'}, {From: math.MinInt, To: math.MaxInt}} {
			if q, e := moves.Apply(r, p, m); q != (api.Position{}) || e != api.ErrArg {
				t.Error(name, "Apply:", q, e)
			}
			if s, e := moves.Text(r, p, m); s != "" || e != api.ErrArg {
				t.Error(name, "Text:", s, e)
			}
		}
		if o, e := moves.Outcome(r, p); o != 0 || e != api.ErrArg {
			t.Error(name, "Outcome:", o, e)
		}
		for _, s := range []string{"", "Ka2-b2", "?"} {
			if m, e := moves.Read(r, p, s); m != (api.Move{}) || e != api.ErrArg {
				t.Error(name, "Read:", m, e)
			}
		}
		for _, depth := range []int{math.MinInt, -1, 0, 6, 7, math.MaxInt} {
			if n, e := moves.Count(r, p, depth); n != 0 || e != api.ErrArg {
				t.Error(name, "Count:", n, e)
			}
		}
	}
}

func TestMovesThatAreNone(t *testing.T) {
	r, p := fine()
	for _, m := range []api.Move{
		{},
		{From: 3, To: 4, Piece: 'k'},
		{From: 3, To: 4, Piece: 'P'},
		{From: 3, To: 4},
		{From: 3, To: 3, Piece: 'K'},
		{From: 3, To: 2, Piece: 'K'},
		{From: 2, To: 1, Piece: 'K'},
		{From: 4, To: 1, Piece: 'K'},
		{From: 3, To: 6, Piece: 'K'},
		{From: 3, To: -3, Piece: 'K'},
		{From: -1, To: 2, Piece: 'P'},
		{From: -1, To: 0, Piece: 'K'},
		{From: -1, To: 0, Piece: 'p'},
		{From: -2, To: 0, Piece: 'P'},
		{From: 6, To: 0, Piece: 'K'},
		{From: math.MaxInt, To: math.MinInt, Piece: 255},
	} {
		if q, e := moves.Apply(r, p, m); q != (api.Position{}) || e != api.ErrMove {
			t.Error(m, "Apply:", q, e)
		}
		if s, e := moves.Text(r, p, m); s != "" || e != api.ErrMove {
			t.Error(m, "Text:", s, e)
		}
	}
}

// Where the game is over, there is nothing to do, whatever could be done.
func TestNothingBehindTheEnd(t *testing.T) {
	r, p := fine()
	m := api.Move{From: 3, To: 4, Piece: 'K'}
	if q, e := moves.Apply(r, p, m); q.Cells != "..k.Kp" || e != api.OK {
		t.Error(q, e)
	}
	p.Cells = "...K.p"
	if l, e := moves.Moves(r, p); len(l) != 0 || e != api.OK {
		t.Error(l, e)
	}
	if l, next, e := moves.Next(r, p); len(l) != 0 || len(next) != 0 || e != api.OK {
		t.Error(l, next, e)
	}
	if q, e := moves.Apply(r, p, m); q != (api.Position{}) || e != api.ErrMove {
		t.Error(q, e)
	}
	if s, e := moves.Text(r, p, m); s != "" || e != api.ErrMove {
		t.Error(s, e)
	}
	if m, e := moves.Read(r, p, "Ka2-b2"); m != (api.Move{}) || e != api.ErrMove {
		t.Error(m, e)
	}
	if n, e := moves.Count(r, p, 1); n != 0 || e != api.OK {
		t.Error(n, e)
	}
}

// shares leaves out texts of one byte: the language keeps those in a place of
// its own.
func shares(a, b string) bool {
	if len(a) < 2 || len(b) < 2 {
		return false
	}
	from, to := uintptr(unsafe.Pointer(unsafe.StringData(a))), uintptr(unsafe.Pointer(unsafe.StringData(b)))
	return from < to+uintptr(len(b)) && to < from+uintptr(len(a))
}

func TestAnswersAreNewMemory(t *testing.T) {
	r, p := fine()
	p.Hands = [2]string{strings.Clone("PPPPPPPP"), strings.Clone("KKPPPPPP")}
	for _, s := range []string{"Ka2-b2", "P@a1"} {
		m, _ := moves.Read(r, p, s)
		q, e := moves.Apply(r, p, m)
		if e != api.OK {
			t.Fatal(s, e)
		}
		for _, a := range []string{q.Cells, q.Hands[0], q.Hands[1]} {
			for _, b := range []string{p.Cells, p.Hands[0], p.Hands[1]} {
				if shares(a, b) {
					t.Error(s, a, b)
				}
			}
		}
	}
	l, next, _ := moves.Next(r, p)
	for i, q := range next {
		if shares(q.Cells, p.Cells) || shares(q.Hands[0], p.Hands[0]) || shares(q.Hands[1], p.Hands[1]) {
			t.Error(l[i], q)
		}
		if i > 0 && (shares(q.Hands[0], next[i-1].Hands[0]) || shares(q.Hands[1], next[i-1].Hands[1])) {
			t.Error(l[i], "shares with the one ahead of it")
		}
	}
	one, _ := moves.Moves(r, p)
	clear(one[:cap(one)])
	two, _ := moves.Moves(r, p)
	if len(two) == 0 || slices.Contains(two, api.Move{}) {
		t.Error(two)
	}
}

func TestWhatIsHandedInStays(t *testing.T) {
	r, p := fine()
	spare := append(r.Pieces, api.Piece{Letter: 'S', Worth: 7})
	r.Pieces = spare[:2]
	ways := append(r.Pieces[0].Ways, api.Way{Kind: 9})
	r.Pieces[0].Ways = ways[:2]
	before, after := deepCopy(spare), slices.Clone(ways)
	q := p
	l, _ := moves.Moves(r, p)
	moves.Apply(r, p, l[0])
	moves.Next(r, p)
	moves.Outcome(r, p)
	moves.Text(r, p, l[0])
	moves.Read(r, p, "Ka2-b2")
	moves.Count(r, p, 3)
	if !reflect.DeepEqual(spare, before) || !slices.Equal(ways, after) || p != q {
		t.Error(spare, ways, p)
	}
}

func deepCopy(pieces []api.Piece) []api.Piece {
	l := slices.Clone(pieces)
	for i := range l {
		l[i].Ways = slices.Clone(l[i].Ways)
	}
	return l
}
