package proof_test

import (
	"math"
	"reflect"
	"slices"
	"strings"
	"sync"
	"testing"
	"unsafe"

	"parlour/api"
	"parlour/board"
	"parlour/proof"
	"parlour/rules"
)

// game is what the lines of a text say.
func game(t *testing.T, lines ...string) api.Rules {
	t.Helper()
	r, f := rules.Read(strings.Join(lines, "\n") + "\n")
	if f.Code != api.OK {
		t.Fatal(lines, f)
	}
	return r
}

func at(t *testing.T, text string) api.Position {
	t.Helper()
	p, f := board.Read(text)
	if f.Code != api.OK {
		t.Fatal(text, f)
	}
	return p
}

// prove asks Prove; what it gives must be shown, and nothing is given with false.
func prove(t *testing.T, r api.Rules, p api.Position, depth int) (api.Cert, bool) {
	t.Helper()
	c, ok, e := proof.Prove(r, p, depth)
	if e != api.OK || !ok && !reflect.DeepEqual(c, api.Cert{}) {
		t.Fatalf("%+v, depth %d: %+v %v %v", p, depth, c, ok, e)
	}
	if ok {
		checks(t, r, p, depth, c, true)
	}
	return c, ok
}

func checks(t *testing.T, r api.Rules, p api.Position, depth int, c api.Cert, want bool) {
	t.Helper()
	if is, e := proof.Check(r, p, depth, c); is != want || e != api.OK {
		t.Errorf("%+v, depth %d, %+v: %v %v", p, depth, c, is, e)
	}
}

// fine has a value in each field that can be spoiled.
func fine() (api.Rules, api.Position) {
	p := api.Position{W: 3, H: 2, Cells: ".kPK.p", Hands: [2]string{"PP", "KP"}}
	return api.Rules{
		Start: api.Position{W: 3, H: 2, Cells: "Pp....", Turn: 1},
		Pieces: []api.Piece{
			{Letter: 'K', Worth: 3, Ways: []api.Way{{Kind: api.Leap, Y: 1}, {Kind: api.Slide, X: 1, Y: 1}}},
			{Letter: 'P', Worth: 1, Ways: []api.Way{{Kind: api.Step, Y: 1}}},
		},
		Drops: true,
		Lose:  'K',
		Reach: 'P',
		Plies: 40,
	}, p
}

// depths are in and out of range, with the edges of both.
var depths = []int{math.MinInt, -10, -1, 0, 1, 5, 9, 10, 11, 1000, math.MaxInt}

func TestWrongPairs(t *testing.T) {
	r, p := fine()
	c, ok := prove(t, r, p, 9)
	if !ok {
		t.Fatal("there is a win")
	}
	for name, spoil := range map[string]func(r *api.Rules, p *api.Position){
		"all zero":           func(r *api.Rules, p *api.Position) { *r, *p = api.Rules{}, api.Position{} },
		"no rules":           func(r *api.Rules, p *api.Position) { *r = api.Rules{} },
		"no position":        func(r *api.Rules, p *api.Position) { *p = api.Position{} },
		"wrong start":        func(r *api.Rules, p *api.Position) { r.Start.Turn = 2 },
		"no pieces":          func(r *api.Rules, p *api.Position) { r.Pieces = nil },
		"piece of no letter": func(r *api.Rules, p *api.Position) { r.Pieces[1].Letter = 0 },
		"worth too much":     func(r *api.Rules, p *api.Position) { r.Pieces[1].Worth = 101 },
		"worth below 0":      func(r *api.Rules, p *api.Position) { r.Pieces[1].Worth = -1 },
		"way to nowhere":     func(r *api.Rules, p *api.Position) { r.Pieces[0].Ways[1] = api.Way{Kind: api.Slide} },
		"lose what is none":  func(r *api.Rules, p *api.Position) { r.Lose = 'Q' },
		"line of one":        func(r *api.Rules, p *api.Position) { r.Line = 1 },
		"no plies":           func(r *api.Rules, p *api.Position) { r.Plies = 0 },
		"other columns":      func(r *api.Rules, p *api.Position) { p.W, p.Cells = 4, ".kPK.p.." },
		"more rows":          func(r *api.Rules, p *api.Position) { p.H, p.Cells = 3, ".kPK.p..." },
		"turned round":       func(r *api.Rules, p *api.Position) { p.W, p.H = 2, 3 },
		"cells missing":      func(r *api.Rules, p *api.Position) { p.Cells = ".kPK." },
		"letter of no piece": func(r *api.Rules, p *api.Position) { p.Cells = ".kPK.Q" },
		"turn 2":             func(r *api.Rules, p *api.Position) { p.Turn = 2 },
		"turn -1":            func(r *api.Rules, p *api.Position) { p.Turn = -1 },
		"hand of no piece":   func(r *api.Rules, p *api.Position) { p.Hands[0] = "PQ" },
		"small in hand":      func(r *api.Rules, p *api.Position) { p.Hands[0] = "p" },
		"hand of nine":       func(r *api.Rules, p *api.Position) { p.Hands[1] = "PPPPPPPPP" },
	} {
		r, p := fine()
		spoil(&r, &p)
		// It is told ahead of a depth that is out of range.
		for _, depth := range depths {
			if c, ok, e := proof.Prove(r, p, depth); !reflect.DeepEqual(c, api.Cert{}) || ok || e != api.ErrArg {
				t.Error("Prove:", name, depth, c, ok, e)
			}
			for _, x := range []api.Cert{{}, c} {
				if is, e := proof.Check(r, p, depth, x); is || e != api.ErrArg {
					t.Error("Check:", name, depth, x, is, e)
				}
			}
		}
	}
}

func TestDepthsOutOfRange(t *testing.T) {
	r, open := fine()
	won, lost := open, open
	won.Cells, lost.Cells = "..PK.p", ".kP..p"
	for _, p := range []api.Position{open, won, lost} {
		shown, ok := prove(t, r, p, 9)
		if ok != (p != lost) {
			t.Error(p, shown, ok)
		}
		for _, depth := range depths {
			want := api.OK
			if depth < 0 || depth > 9 {
				want = api.ErrRange
			}
			c, ok, e := proof.Prove(r, p, depth)
			if e != want || want != api.OK && (ok || !reflect.DeepEqual(c, api.Cert{})) {
				t.Error("Prove:", p, depth, c, ok, e)
			}
			for _, x := range []api.Cert{{}, shown} {
				if is, e := proof.Check(r, p, depth, x); e != want || want != api.OK && is {
					t.Error("Check:", p, depth, x, is, e)
				}
			}
		}
	}
}

// over are positions that are not Open, and who of those whose turn it is has won.
var over = []struct {
	position string
	lines    []string
	won      bool
}{
	{"K../P.. w -/-", king, true},
	{"K../P.. b -/-", king, false},
	{"k../P.. w -/KKKKKKKK", king, false},
	{"k../P.. b -/KKKKKKKK", king, true},
	{".../... w K/K", king, false},
	{".../... b K/K", king, false},
	{"XXX/x.x w X/X", line, true},
	{"XXX/x.x b X/X", line, false},
	{"XXX/xxx w X/X", line, false},
	{"XXX/xxx b X/X", line, false},
	{"XXx/xxX w X/X", line, false},
	{"XXx/x.X b XXXXXXXX/-", line, false},
	{"..P/... w -/-", reach, true},
	{"..P/... b -/-", reach, false},
	{"..P/p.. b -/-", reach, false},
	{"P../..p w -/-", bare, false},
	{"p../... w -/-", bare, false},
	{".../... b PPP/P", bare, false},
	{"P../..p w -/-", stuck, false},
	{"P../..p b -/-", stuck, false},
	{"p../... w -/-", stuck, false},
}

var (
	king  = []string{"piece K 3: leap 0 1", "piece P 1: step 0 1", "lose K", "plies 9"}
	line  = []string{"piece X 5", "drops", "line 3", "plies 9"}
	reach = []string{"piece P 1: step 0 1", "reach P", "plies 9"}
	bare  = []string{"piece P 7: step 0 1", "plies 9"}
	stuck = []string{"piece P 7: step 0 1", "stuck", "plies 9"}
)

// more are Certs that say something, where nothing must be said.
var more = map[string]api.Cert{
	"Some":   {Some: true},
	"From":   {Move: api.Move{From: 1}},
	"hand":   {Move: api.Move{From: -1}},
	"To":     {Move: api.Move{To: 1}},
	"Piece":  {Move: api.Move{Piece: 'P'}},
	"a move": {Some: true, Move: api.Move{From: 0, To: 3, Piece: 'P'}, Kids: []api.Cert{{}}},
	"a Kid":  {Kids: []api.Cert{{}}},
	"Kids":   {Kids: make([]api.Cert, 5)},
}

// Who has won already has won within any number of moves, who has not can't.
func TestPositionsThatAreNotOpen(t *testing.T) {
	for _, x := range over {
		r := game(t, append([]string{"start " + x.position}, x.lines...)...)
		for depth := range 10 {
			c, ok := prove(t, r, r.Start, depth)
			if ok != x.won || c.Some || c.Move != (api.Move{}) || len(c.Kids) != 0 {
				t.Error(x.position, depth, c, ok)
			}
			checks(t, r, r.Start, depth, api.Cert{}, x.won)
			checks(t, r, r.Start, depth, api.Cert{Kids: []api.Cert{}}, x.won)
			for _, c := range more {
				checks(t, r, r.Start, depth, c, false)
			}
		}
	}
}

// race is a game in which one player goes ahead, so many moves from the last
// row, and the other one goes forth and back, with two pieces.
func race(t *testing.T, player, moves int) (api.Rules, api.Position) {
	t.Helper()
	rows := []string{".zz", "...", "...", "...", "...", "...", "...", "..."}
	rows[moves] = "P" + rows[moves][1:]
	r := game(t, "start "+strings.Join(rows, "/")+" w -/-",
		"piece P 1: step 0 1 quiet", "piece Z 1: leap 0 7 quiet", "reach P", "plies 40")
	if player == 0 {
		return r, r.Start
	}
	p, e := board.Swapped(r.Start)
	if e != api.OK {
		t.Fatal(e)
	}
	return r, p
}

// raceCert is the only one of a race.
func raceCert(player, moves int) api.Cert {
	if moves == 0 {
		return api.Cert{}
	}
	m := api.Move{From: 3 * (7 - moves), To: 3 * (8 - moves), Piece: 'P'}
	if player == 1 {
		m.From, m.To = 3*moves, 3*(moves-1)
	}
	if moves == 1 {
		return api.Cert{Some: true, Move: m, Kids: []api.Cert{{}}}
	}
	kids := []api.Cert{raceCert(player, moves-1), raceCert(player, moves-1)}
	return api.Cert{Some: true, Move: m, Kids: []api.Cert{{Kids: kids}}}
}

func same(a, b api.Cert) bool {
	return a.Some == b.Some && a.Move == b.Move && slices.EqualFunc(a.Kids, b.Kids, same)
}

// Of his own moves and those of the other one together the winner has just so
// many, and with one less he has not won.
func TestRaces(t *testing.T) {
	for player := range 2 {
		for own := 1; own <= 7; own++ {
			r, p := race(t, player, own)
			want := raceCert(player, own)
			for depth := range 10 {
				within := 2*own-1 <= depth
				c, ok := prove(t, r, p, depth)
				if ok != within || ok && !same(c, want) {
					t.Error(player, own, depth, c, ok)
				}
				checks(t, r, p, depth, want, within)
			}
		}
	}
}

// What Prove gives is shown at its own depth and above; at one less, if there
// was a win so soon.
func TestOneMoreOneLess(t *testing.T) {
	r, p := race(t, 1, 3)
	for depth := 5; depth <= 9; depth++ {
		c, _ := prove(t, r, p, depth)
		for other := range 10 {
			checks(t, r, p, other, c, other >= 5)
		}
		if is, e := proof.Check(r, p, -1, c); is || e != api.ErrRange {
			t.Error(is, e)
		}
		if is, e := proof.Check(r, p, 10, c); is || e != api.ErrRange {
			t.Error(is, e)
		}
	}
}

// fork is won in three moves, if X comes beside X: whichever end the other one
// takes, there is another.
func fork(t *testing.T) (api.Rules, api.Cert) {
	r := game(t, "start ..X.. w XX/YY", "piece X 1", "piece Y 1", "drops", "line 3", "plies 9")
	put := func(to int, kids ...api.Cert) api.Cert {
		return api.Cert{Some: true, Move: api.Move{From: -1, To: to, Piece: 'X'}, Kids: kids}
	}
	end := api.Cert{}
	return r, put(1, api.Cert{Kids: []api.Cert{put(3, end), put(0, end), put(3, end)}})
}

func TestFork(t *testing.T) {
	r, c := fork(t)
	for depth := range 10 {
		if _, ok := prove(t, r, r.Start, depth); ok != (depth >= 3) {
			t.Error(depth, ok)
		}
		checks(t, r, r.Start, depth, c, depth >= 3)
	}
	// There are several Certs: the other beside, another end.
	c.Kids[0].Kids[2].Move.To = 0
	checks(t, r, r.Start, 3, c, true)
	c.Move.To, c.Kids[0].Kids[0].Move.To, c.Kids[0].Kids[1].Move.To, c.Kids[0].Kids[2].Move.To = 3, 4, 4, 1
	checks(t, r, r.Start, 3, c, true)
}

// spoilt are ways in which the Cert of a fork is none any more.
var spoilt = map[string]func(c *api.Cert){
	"nothing":                func(c *api.Cert) { *c = api.Cert{} },
	"without Some":           func(c *api.Cert) { c.Some = false },
	"without Move":           func(c *api.Cert) { c.Move = api.Move{} },
	"not out of the hand":    func(c *api.Cert) { c.Move.From = 2 },
	"out of nowhere":         func(c *api.Cert) { c.Move.From = -2 },
	"to what is not empty":   func(c *api.Cert) { c.Move.To = 2 },
	"off the board":          func(c *api.Cert) { c.Move.To = 5 },
	"far off the board":      func(c *api.Cert) { c.Move.To = math.MaxInt },
	"below the board":        func(c *api.Cert) { c.Move.To = -1 },
	"from far below":         func(c *api.Cert) { c.Move.From = math.MinInt },
	"a move that won't do":   func(c *api.Cert) { c.Move.To = 4 },
	"small letter":           func(c *api.Cert) { c.Move.Piece = 'x' },
	"piece of the other one": func(c *api.Cert) { c.Move.Piece = 'Y' },
	"piece of nobody":        func(c *api.Cert) { c.Move.Piece = 'Q' },
	"no piece":               func(c *api.Cert) { c.Move.Piece = 0 },
	"no Kid":                 func(c *api.Cert) { c.Kids = nil },
	"a Kid twice":            func(c *api.Cert) { c.Kids = append(c.Kids, c.Kids[0]) },
	"a Kid and nothing":      func(c *api.Cert) { c.Kids = append(c.Kids, api.Cert{}) },
	"a Kid for all":          func(c *api.Cert) { c.Some, c.Move = false, api.Move{} },
	"its Kid alone":          func(c *api.Cert) { *c = c.Kids[0] },

	"Some, for all":          func(c *api.Cert) { c.Kids[0].Some = true },
	"From, for all":          func(c *api.Cert) { c.Kids[0].Move.From = -1 },
	"To, for all":            func(c *api.Cert) { c.Kids[0].Move.To = 1 },
	"Piece, for all":         func(c *api.Cert) { c.Kids[0].Move.Piece = 'Y' },
	"a Move, for all":        func(c *api.Cert) { c.Kids[0].Move = api.Move{From: -1, To: 0, Piece: 'Y'} },
	"one answer for all":     func(c *api.Cert) { c.Kids[0].Kids = c.Kids[0].Kids[:1] },
	"none for the last":      func(c *api.Cert) { c.Kids[0].Kids = c.Kids[0].Kids[:2] },
	"none for the first":     func(c *api.Cert) { c.Kids[0].Kids = c.Kids[0].Kids[1:] },
	"no answers":             func(c *api.Cert) { c.Kids[0].Kids = nil },
	"an answer too many":     func(c *api.Cert) { c.Kids[0].Kids = append(c.Kids[0].Kids, c.Kids[0].Kids[2]) },
	"nothing too many":       func(c *api.Cert) { c.Kids[0].Kids = append(c.Kids[0].Kids, api.Cert{}) },
	"answers in other order": func(c *api.Cert) { k := c.Kids[0].Kids; k[0], k[1] = k[1], k[0] },
	"answers backward":       func(c *api.Cert) { k := c.Kids[0].Kids; k[2].Move.To = 0; slices.Reverse(k[1:]); slices.Reverse(k) },
	"a single move as Kid": func(c *api.Cert) {
		c.Kids[0] = api.Cert{Some: true, Move: api.Move{From: -1, To: 0, Piece: 'Y'}, Kids: c.Kids[0].Kids[:1]}
	},

	"a wrong answer":       func(c *api.Cert) { c.Kids[0].Kids[1].Move.To = 4 },
	"answer without Some":  func(c *api.Cert) { c.Kids[0].Kids[2].Some = false },
	"answer that is empty": func(c *api.Cert) { c.Kids[0].Kids[0] = api.Cert{} },
	"answer without Kid":   func(c *api.Cert) { c.Kids[0].Kids[1].Kids = nil },
	"answer with two Kids": func(c *api.Cert) { c.Kids[0].Kids[1].Kids = make([]api.Cert, 2) },
}

func TestSpoiltCerts(t *testing.T) {
	for name, spoil := range spoilt {
		r, c := fork(t)
		spoil(&c)
		for depth := range 10 {
			if is, e := proof.Check(r, r.Start, depth, c); is || e != api.OK {
				t.Error(name, depth, is, e)
			}
		}
	}
	for name, end := range more {
		for i := range 3 {
			r, c := fork(t)
			c.Kids[0].Kids[i].Kids[0] = end
			for depth := range 10 {
				if is, e := proof.Check(r, r.Start, depth, c); is || e != api.OK {
					t.Error("at the end", name, i, depth, is, e)
				}
			}
		}
	}
}

// Where the other one can't move it is a Draw or a win: a Kid for each of no
// moves shows nothing.
func TestNowhereToGo(t *testing.T) {
	c := api.Cert{Some: true, Move: api.Move{From: 0, To: 2, Piece: 'P'}, Kids: []api.Cert{{}}}
	for _, with := range []bool{false, true} {
		r := game(t, "start ../../P. w -/-", "piece P 1: step 0 1", "plies 9")
		r.Stuck = with
		for depth := range 10 {
			want := with && depth > 0
			if got, ok := prove(t, r, r.Start, depth); ok != want || ok && !same(got, c) {
				t.Error(with, depth, got, ok)
			}
			checks(t, r, r.Start, depth, c, want)
			checks(t, r, r.Start, depth, api.Cert{}, false)
		}
	}
}

// Who must go up to the other one is taken: a win by what the other one has to
// do, and by nothing that is done.
func TestNoWayOut(t *testing.T) {
	r := game(t, "start k...K b -/-", "piece K 3: leap 0 1", "lose K", "plies 9")
	for depth := range 10 {
		c, ok := prove(t, r, r.Start, depth)
		if ok {
			t.Error(depth, c)
		}
	}
	for _, x := range []struct {
		position string
		least    int
	}{
		{".k.K. b -/-", 10}, {"k..K. b -/-", 5}, {"k..K. w -/-", 3}, {"..kK. b -/-", 1}, {"..kK. w -/-", 1}, {".k..K b -/-", 3},
	} {
		for depth := range 10 {
			if c, ok := prove(t, r, at(t, x.position), depth); ok != (depth >= x.least) {
				t.Error(x.position, depth, c, ok)
			}
		}
	}
}

// A game that goes round and round is won by nobody.
func TestNoWin(t *testing.T) {
	for _, lines := range [][]string{
		{"start K../.../..k w -/-", "piece K 3: leap 0 1, leap 1 1", "plies 9"},
		{"start .../.../... w XXXXX/XXXXX", "piece X 1", "drops", "line 3", "plies 9"},
		{"start K......./......../......../......../......../......../......../.......k b -/-", "piece K 3: leap 0 1", "lose K", "plies 40"},
	} {
		r := game(t, lines...)
		for depth := range 10 {
			if c, ok := prove(t, r, r.Start, depth); ok {
				t.Error(lines, depth, c)
			}
		}
	}
}

// lists are all lists of Kids, with their spare room.
func lists(c api.Cert) [][]api.Cert {
	if cap(c.Kids) == 0 {
		return nil
	}
	all := [][]api.Cert{c.Kids[:cap(c.Kids)]}
	for _, k := range c.Kids {
		all = append(all, lists(k)...)
	}
	return all
}

func share(a, b []api.Cert) bool {
	from, to := uintptr(unsafe.Pointer(&a[0])), uintptr(unsafe.Pointer(&b[0]))
	size := unsafe.Sizeof(a[0])
	return from < to+size*uintptr(len(b)) && to < from+size*uintptr(len(a))
}

// To the same position lead several ways, and each has a Cert of its own.
func TestListsAreNewMemory(t *testing.T) {
	for _, own := range []int{2, 3, 4} {
		r, p := race(t, 0, own)
		c, _ := prove(t, r, p, 9)
		again, _ := prove(t, r, p, 9)
		all := append(lists(c), lists(again)...)
		if len(all) < 4 {
			t.Error(own, len(all))
		}
		for i := range all {
			for j := range i {
				if share(all[i], all[j]) {
					t.Fatal(own, i, j)
				}
			}
		}
	}
}

// roomy is the Cert with spare room in all its lists, and something in it.
func roomy(c api.Cert) api.Cert {
	kids := make([]api.Cert, 0, len(c.Kids)+1)
	for _, k := range c.Kids {
		kids = append(kids, roomy(k))
	}
	c.Kids = append(kids, api.Cert{Some: true, Move: api.Move{From: 7, To: 7, Piece: 7}})[:len(kids)]
	return c
}

// laidOpen is a copy of the Cert in which all spare room is seen.
func laidOpen(c api.Cert) api.Cert {
	n := len(c.Kids)
	c.Kids = slices.Clone(c.Kids[:cap(c.Kids)])
	for i := range n {
		c.Kids[i] = laidOpen(c.Kids[i])
	}
	return c
}

func TestWhatIsHandedInStays(t *testing.T) {
	r, p := fine()
	spare := append(r.Pieces, api.Piece{Letter: 'S', Worth: 7})
	r.Pieces = spare[:2]
	ways := append(r.Pieces[0].Ways, api.Way{Kind: 9})
	r.Pieces[0].Ways = ways[:2]
	before, after, q := slices.Clone(spare), slices.Clone(ways), p
	for i := range before {
		before[i].Ways = slices.Clone(before[i].Ways)
	}
	p.Turn, q.Turn = 1, 1
	c, ok := prove(t, r, p, 9)
	if !ok {
		t.Error("there is a win")
	}
	c = roomy(c)
	was := laidOpen(c)
	for depth := range 10 {
		proof.Check(r, p, depth, c)
	}
	if !reflect.DeepEqual(spare, before) || !slices.Equal(ways, after) || p != q {
		t.Error(spare, ways, p)
	}
	if !same(laidOpen(c), was) {
		t.Error(c, was)
	}
}

// Nothing is kept from call to call, and calls at the same time are not in each
// other's way.
func TestCallsAtTheSameTime(t *testing.T) {
	var games [2]api.Rules
	var certs [2]api.Cert
	games[0] = game(t, "start ..X..... w XXX/XXX", "piece X 1", "drops", "line 3", "plies 9")
	games[1] = games[0]
	games[1].Line = 4
	for i, r := range games {
		c, ok := prove(t, r, r.Start, 5)
		if ok != (i == 0) {
			t.Error(i, c, ok)
		}
		certs[i] = c
	}
	var group sync.WaitGroup
	for i := range 16 {
		group.Go(func() {
			r, want := games[i%2], certs[i%2]
			for range 5 {
				c, ok, e := proof.Prove(r, r.Start, 5)
				is, f := proof.Check(r, r.Start, 5, certs[0])
				if !same(c, want) || ok != (i%2 == 0) || is != ok || e != api.OK || f != api.OK {
					t.Error(i, c, ok, is, e, f)
				}
			}
		})
	}
	group.Wait()
}
