package search_test

import (
	"math"
	"reflect"
	"runtime"
	"slices"
	"strings"
	"sync"
	"testing"
	"time"

	"parlour/api"
	"parlour/board"
	"parlour/moves"
	"parlour/rules"
	"parlour/search"
)

// game is what the lines of a text say.
func game(t *testing.T, lines ...string) api.Rules {
	t.Helper()
	r, f := rules.Read(strings.Join(lines, "\n") + "\n")
	if f.Code != api.OK {
		t.Fatal(lines, f)
	}
	return r
}

func at(t *testing.T, text string) api.Position {
	t.Helper()
	p, f := board.Read(text)
	if f.Code != api.OK {
		t.Fatal(text, f)
	}
	return p
}

// answer is all that Search tells.
type answer struct {
	score int
	best  api.Move
	some  bool
	err   api.Errno
}

func ask(r api.Rules, p api.Position, depth, workers, slots int) answer {
	var a answer
	a.score, a.best, a.some, a.err = search.Search(r, p, depth, workers, slots)
	return a
}

// ways are numbers of workers and slots that must not make a difference.
var ways = []struct{ workers, slots int }{
	{1, 0}, {1, 1}, {1, 2}, {1, 3}, {1, 64}, {1, 65536},
	{2, 0}, {2, 1}, {3, 5}, {7, 17}, {16, 0}, {16, 1}, {16, 64}, {16, 65536},
}

// expect asks in all ways for a move (none, if its text is empty).
func expect(t *testing.T, r api.Rules, p api.Position, depth, score int, move string) {
	t.Helper()
	want := answer{score: score, some: move != ""}
	if want.some {
		m, e := moves.Read(r, p, move)
		if e != api.OK {
			t.Fatal(move, e)
		}
		want.best = m
	}
	for _, w := range ways {
		if a := ask(r, p, depth, w.workers, w.slots); a != want {
			t.Errorf("%+v, depth %d, %+v: %+v, not %+v", p, depth, w, a, want)
			return
		}
	}
}

// fine has a value in each field that can be spoiled.
func fine() (api.Rules, api.Position) {
	p := api.Position{W: 3, H: 2, Cells: "..kK.p", Hands: [2]string{"PP", "KP"}}
	return api.Rules{
		Start: api.Position{W: 3, H: 2, Cells: "Pp....", Turn: 1},
		Pieces: []api.Piece{
			{Letter: 'K', Worth: 3, Ways: []api.Way{{Kind: api.Leap, Y: 1}, {Kind: api.Slide, X: 1, Y: 1}}},
			{Letter: 'P', Worth: 1, Ways: []api.Way{{Kind: api.Step, Y: 1}}},
		},
		Drops: true,
		Lose:  'K',
		Reach: 'P',
		Plies: 40,
	}, p
}

func TestWrongPairs(t *testing.T) {
	for name, spoil := range map[string]func(r *api.Rules, p *api.Position){
		"all zero":           func(r *api.Rules, p *api.Position) { *r, *p = api.Rules{}, api.Position{} },
		"no rules":           func(r *api.Rules, p *api.Position) { *r = api.Rules{} },
		"no position":        func(r *api.Rules, p *api.Position) { *p = api.Position{} },
		"wrong start":        func(r *api.Rules, p *api.Position) { r.Start.Turn = 2 },
		"no pieces":          func(r *api.Rules, p *api.Position) { r.Pieces = nil },
		"piece of no letter": func(r *api.Rules, p *api.Position) { r.Pieces[1].Letter = 0 },
		"worth too much":     func(r *api.Rules, p *api.Position) { r.Pieces[1].Worth = 101 },
		"worth below 0":      func(r *api.Rules, p *api.Position) { r.Pieces[1].Worth = -1 },
		"way to nowhere":     func(r *api.Rules, p *api.Position) { r.Pieces[0].Ways[1] = api.Way{Kind: api.Slide} },
		"lose what is none":  func(r *api.Rules, p *api.Position) { r.Lose = 'Q' },
		"no plies":           func(r *api.Rules, p *api.Position) { r.Plies = 0 },
		"other columns":      func(r *api.Rules, p *api.Position) { p.W, p.Cells = 4, "..kK.p.." },
		"more rows":          func(r *api.Rules, p *api.Position) { p.H, p.Cells = 3, "..kK.p..." },
		"turned round":       func(r *api.Rules, p *api.Position) { p.W, p.H = 2, 3 },
		"cells missing":      func(r *api.Rules, p *api.Position) { p.Cells = "..kK." },
		"letter of no piece": func(r *api.Rules, p *api.Position) { p.Cells = "..kK.Q" },
		"turn 2":             func(r *api.Rules, p *api.Position) { p.Turn = 2 },
		"turn -1":            func(r *api.Rules, p *api.Position) { p.Turn = -1 },
		"hand of no piece":   func(r *api.Rules, p *api.Position) { p.Hands[0] = "PQ" },
		"small in hand":      func(r *api.Rules, p *api.Position) { p.Hands[0] = "p" },
		"hand of nine":       func(r *api.Rules, p *api.Position) { p.Hands[1] = "PPPPPPPPP" },
	} {
		r, p := fine()
		spoil(&r, &p)
		// It is told ahead of numbers that are out of range.
		for _, depth := range []int{math.MinInt, -1, 0, 3, 6, 7, math.MaxInt} {
			for _, workers := range []int{math.MinInt, 0, 1, 16, 17} {
				for _, slots := range []int{-1, 0, 65536, 65537, math.MaxInt} {
					if a := ask(r, p, depth, workers, slots); a != (answer{err: api.ErrArg}) {
						t.Fatal(name, depth, workers, slots, a)
					}
				}
			}
		}
	}
}

func TestNumbersOutOfRange(t *testing.T) {
	r, p := fine()
	over := p
	over.Cells = "...K.p"
	depths := []int{math.MinInt, -1, 0, 1, 6, 7, math.MaxInt}
	workers := []int{math.MinInt, -1, 0, 1, 16, 17, math.MaxInt}
	slots := []int{math.MinInt, -1, 0, 1, 65536, 65537, math.MaxInt}
	for _, d := range depths {
		for _, w := range workers {
			for _, s := range slots {
				fits := d >= 0 && d <= 6 && w >= 1 && w <= 16 && s >= 0 && s <= 65536
				for _, q := range []api.Position{p, over} {
					a := ask(r, q, d, w, s)
					if fits && a.err != api.OK || !fits && a != (answer{err: api.ErrRange}) {
						t.Error(q.Cells, d, w, s, a)
					}
				}
			}
		}
	}
}

// Where the game is over the moves that are still ahead count, whoever's turn
// it is.
func TestPositionsThatAreNotOpen(t *testing.T) {
	king := []string{"piece K 3: leap 0 1", "piece P 1: step 0 1", "lose K", "plies 9"}
	line := []string{"piece X 5", "drops", "line 3", "plies 9"}
	reach := []string{"piece P 1: step 0 1", "reach P", "plies 9"}
	bare := []string{"piece P 7: step 0 1", "plies 9"}
	stuck := []string{"piece P 7: step 0 1", "stuck", "plies 9"}
	const win, loss, draw = 1, -1, 0
	for _, x := range []struct {
		lines    []string
		position string
		sign     int
	}{
		{king, "K../P.. w -/-", win},
		{king, "K../P.. b -/-", loss},
		{king, "k../P.. w -/KKKKKKKK", loss},
		{king, "k../P.. b -/KKKKKKKK", win},
		{king, ".../... w K/K", loss},
		{king, ".../... b K/K", loss},
		{line, "XXX/x.x w X/X", win},
		{line, "XXX/x.x b X/X", loss},
		{line, "XXX/xxx w X/X", loss},
		{line, "XXX/xxx b X/X", loss},
		{line, "XXx/xxX w X/X", draw},
		{line, "XXx/x.X b XXXXXXXX/-", draw},
		{reach, "..P/... w -/-", win},
		{reach, "..P/... b -/-", loss},
		{reach, "..P/p.. b -/-", loss},
		{bare, "P../..p w -/-", draw},
		{bare, "p../... w -/-", draw},
		{bare, ".../... b PPP/P", draw},
		{stuck, "P../..p w -/-", loss},
		{stuck, "P../..p b -/-", loss},
		{stuck, "p../... w -/-", loss},
		{stuck, ".../... b PPP/P", loss},
	} {
		r := game(t, append([]string{"start " + x.position}, x.lines...)...)
		for depth := range 7 {
			expect(t, r, r.Start, depth, x.sign*(10000+depth), "")
		}
	}
}

func TestNothingAhead(t *testing.T) {
	pieces := []string{"piece A 1: leap 0 1", "piece B 20: leap 0 1", "piece C 100: leap 0 1", "piece Z 0: leap 0 1"}
	for _, x := range []struct {
		position string
		score    int
	}{
		{"AZ./... w -/-", 1},
		{"AZ./..a w -/-", 0},
		{"AZ./..b w -/-", -19},
		{"AZ./..b b -/-", 19},
		{"Bc./C.a b -/-", -19},
		{"AZ./..z w AB/C", 1 + 21 - 100},
		{"AZ./..z b AB/C", 100 - 1 - 21},
		{"Z.z/... w CCCCCCCC/-", 800},
		{"Z.z/... b CCCCCCCC/-", -800},
		{"Z.z/... w -/AAABBBCC", -263},
		{"Z.z/... b -/AAABBBCC", 263},
		{"Z.z/... w ABC/ABC", 0},
	} {
		for _, rest := range [][]string{{"plies 9"}, {"drops", "plies 9"}} {
			lines := append([]string{"start " + x.position}, pieces...)
			r := game(t, append(lines, rest...)...)
			expect(t, r, r.Start, 0, x.score, "")
		}
	}
	// The most that pieces can be worth; a win is still worth more.
	full := "C.CCCCCC" + strings.Repeat("/CCCCCCCC", 7)
	r := game(t, "start "+full+" w CCCCCCCC/-", "piece C 100: leap 0 1", "drops", "plies 9")
	expect(t, r, r.Start, 0, 7100, "")
}

func TestFirstOfSeveralMoves(t *testing.T) {
	rook := []string{"piece R 5: slide 0 1", "piece P 1: leap 0 1", "piece Q 3: leap 0 1", "plies 9"}
	king := []string{"piece K 3: leap 0 1, leap 1 1", "lose K", "plies 9"}
	line := []string{"piece X 1", "piece Y 1", "drops", "line 3", "plies 9"}
	for _, x := range []struct {
		lines    []string
		position string
		depth    int
		score    int
		move     string
	}{
		// All are the same.
		{king, ".../.../.../.../K.k w -/-", 1, 0, "Ka1-b1"},
		{king, "K..../...../...../...../....k w -/-", 4, 0, "Ka5-a4"},
		// Two take what is worth the same, others nothing or less.
		{rook, "q../.../R.q w -/-", 1, 2, "Ra1xc1"},
		{rook, "p.q/.../..R w -/-", 1, 4, "Rc1xc3"},
		{rook, "p../.../R.p w -/-", 1, 4, "Ra1xc1"},
		{rook, "q../.../R.p w -/-", 1, 4, "Ra1xa3"},
		{rook, ".p./pRp/.p. w -/-", 1, 2, "Rb2xb1"},
		{rook, ".p./pRq/.p. w -/-", 1, 2, "Rb2xc2"},
		{rook, "P.r/.../R.. b -/-", 1, 0, "Rc3xa3"},
		// Several letters win on several cells.
		{line, "X.X/xx./... w Y/Y", 1, 10000, "Y@b3"},
		{line, "XX./xx./XX. w XY/Y", 1, 10000, "X@c1"},
		{line, "X.X/.../XX. w XY/XY", 5, 10004, "X@c1"},
		{line, "xx./xx./XX. b XX/Y", 2, 10001, "Y@c1"},
		// All are lost, as soon.
		{line, "xx./xx./... w X/Y", 2, -10000, "X@a1"},
		{line, "xx./xx./X.. w X/Y", 6, -10004, "X@b1"},
	} {
		r := game(t, append([]string{"start " + x.position}, x.lines...)...)
		expect(t, r, r.Start, x.depth, x.score, x.move)
	}
}

// A win is as near as can be, though the first of Moves would win later.
func TestSooner(t *testing.T) {
	race := []string{"piece P 1: step 0 1, step 0 2", "reach P", "plies 9"}
	r := game(t, append([]string{"start .p/../../../P. w -/-"}, race...)...)
	expect(t, r, r.Start, 0, 0, "")
	for depth := 1; depth <= 6; depth++ {
		if depth < 3 {
			expect(t, r, r.Start, depth, 0, "Pa1-a2")
		} else {
			expect(t, r, r.Start, depth, 10000+depth-3, "Pa1-a3")
		}
	}
	near := at(t, ".p/../P./../.. w -/-")
	lost := at(t, ".p/../P./../.. b -/-")
	for depth := 1; depth <= 6; depth++ {
		expect(t, r, near, depth, 10000+depth-1, "Pa3-a5")
		if depth == 1 {
			expect(t, r, lost, depth, 0, "Pb5-b3")
		} else {
			expect(t, r, lost, depth, -(10000 + depth - 2), "Pb5-b3")
		}
	}
}

// A loss is as far as can be. Who must go up to the other one is taken.
func TestLater(t *testing.T) {
	r := game(t, "start k...K w -/-", "piece K 3: leap 0 1", "lose K", "plies 9")
	for depth := 1; depth <= 5; depth++ {
		expect(t, r, r.Start, depth, 0, "Ke1-d1")
	}
	expect(t, r, r.Start, 6, -10000, "Ke1-d1")
	p := at(t, ".k.K. w -/-")
	expect(t, r, p, 1, 0, "Kd1-c1")
	expect(t, r, p, 2, 0, "Kd1-e1")
	expect(t, r, p, 3, 0, "Kd1-e1")
	for depth := 4; depth <= 6; depth++ {
		expect(t, r, p, depth, -(10000 + depth - 4), "Kd1-e1")
	}
	q := at(t, "..kK. b -/-")
	for depth := 1; depth <= 6; depth++ {
		expect(t, r, q, depth, 10000+depth-1, "Kc1xd1")
	}
}

// What is taken counts, on the board and, with Drops, in the taker's hand,
// unless that is full.
func TestTakenPieces(t *testing.T) {
	// Both have a Z, so that nobody is without moves.
	pieces := []string{"piece A 2: leap 0 1", "piece B 7: leap 0 1", "piece Z 0: leap 0 1"}
	for _, x := range []struct {
		position, drops string
		score           int
		move            string
	}{
		{"Z.Ab.z w -/-", "", 2, "Ac1xd1"},
		{"Z.Ab.z w -/-", "drops", 9, "Ac1xd1"},
		{"Z.Ab.z b -/-", "", 7, "Bd1xc1"},
		{"Z.Ab.z b -/-", "drops", 9, "Bd1xc1"},
		{"Z.Ab.z w BBBBBBBB/-", "drops", 58, "Ac1xd1"},
		{"Z.Ab.z w BBBBBBB/-", "drops", 58, "Ac1xd1"},
		{"Z.Ab.z w -/AAAAAAAA", "drops", -7, "Ac1xd1"},
		{"Z.A.b.z w A/-", "drops", -3, "A@b1"},
	} {
		lines := append([]string{"start " + x.position}, pieces...)
		if x.drops != "" {
			lines = append(lines, x.drops)
		}
		r := game(t, append(lines, "plies 9")...)
		expect(t, r, r.Start, 1, x.score, x.move)
	}
}

// comeAgain counts positions to which several ways of the same length lead,
// and those to which ways of several lengths do.
func comeAgain(r api.Rules, depth int) (ways, lengths int) {
	level, levels := map[api.Position]int{r.Start: 1}, map[api.Position]int{r.Start: 1}
	for range depth {
		further := map[api.Position]int{}
		for p := range level {
			_, next, _ := moves.Next(r, p)
			for _, q := range next {
				further[q]++
			}
		}
		for q, n := range further {
			ways += min(1, n-1)
			levels[q]++
		}
		level = further
	}
	for _, n := range levels {
		lengths += min(1, n-1)
	}
	return ways, lengths
}

// Who goes by one or by two cells, or forth and back, comes to the same
// position by other ways, with other numbers of moves ahead.
func TestPositionsThatComeAgain(t *testing.T) {
	for _, lines := range [][]string{
		{"start p..q/..../..../..../P..Q w -/-", "piece P 3: step 0 1, step 0 2", "piece Q 1: leap 0 1", "reach P", "plies 40"},
		{"start p.q/.../.../P.Q b -/-", "piece P 3: step 0 1", "piece Q 9: leap 0 1, leap 0 2", "reach P", "stuck", "plies 40"},
		{"start kq./.../.QK w -/-", "piece K 0: leap 0 1", "piece Q 2: leap 1 1, leap 0 2", "lose K", "plies 40"},
		{"start k......K w -/-", "piece K 4: leap 0 1, leap 0 2, leap 0 3", "lose K", "plies 40"},
		{"start a../..A b B/B", "piece A 4: leap 0 1", "piece B 1: leap 0 1", "drops", "lose A", "plies 40"},
		{"start q./../.B w -/-", "piece Q 1: leap 1 2", "piece B 0: leap 0 1 quiet", "reach B", "plies 40"},
		{"start .AZ/.../.a. w -/-", "piece A 67: leap 0 1", "piece Z 37: leap 0 1", "lose A", "plies 40"},
		{"start .a/ZZ/aa b -/-", "piece A 2: slide 0 1 take, slide 0 2", "piece Z 2: slide 0 1", "line 3", "stuck", "plies 40"},
		{"start .z/Z./../.A w -/-", "piece A 3: step 1 1, step 0 2", "piece Z 1: step 0 1, slide 0 1", "drops", "lose Z", "stuck", "plies 40"},
	} {
		r := game(t, lines...)
		if ways, lengths := comeAgain(r, 5); ways < 1 || lengths < 1 {
			t.Error(lines, "positions that come again:", ways, lengths)
		}
		for depth := 2; depth <= 6; depth++ {
			want := slowSearch(r, r.Start, depth)
			for _, slots := range []int{0, 1, 2, 3, 5, 8, 13, 50, 200, 1000, 65536} {
				for _, workers := range []int{1, 4} {
					if a := ask(r, r.Start, depth, workers, slots); a != want {
						t.Errorf("%s, depth %d, %d workers, %d slots: %+v, not %+v", lines, depth, workers, slots, a, want)
					}
				}
			}
		}
	}
}

func TestWhatIsHandedInStays(t *testing.T) {
	r, p := fine()
	spare := append(r.Pieces, api.Piece{Letter: 'S', Worth: 7})
	r.Pieces = spare[:2]
	ways := append(r.Pieces[0].Ways, api.Way{Kind: 9})
	r.Pieces[0].Ways = ways[:2]
	before, after, q := slices.Clone(spare), slices.Clone(ways), p
	for i := range before {
		before[i].Ways = slices.Clone(before[i].Ways)
	}
	ask(r, p, 4, 3, 10)
	if !reflect.DeepEqual(spare, before) || !slices.Equal(ways, after) || p != q {
		t.Error(spare, ways, p)
	}
}

// Nothing is kept from call to call, and calls at the same time are not in each
// other's way.
func TestCallsAtTheSameTime(t *testing.T) {
	r := game(t, "start Q..q/P..p/.PQ. b -/-", "piece P 1: step 0 1", "piece Q 3: leap 0 1, leap 1 1", "plies 9")
	p, other := r.Start, r
	other.Pieces = []api.Piece{{Letter: 'P', Worth: 50, Ways: r.Pieces[0].Ways}, r.Pieces[1]}
	want := [2]answer{ask(r, p, 4, 1, 0), ask(other, p, 4, 1, 0)}
	if want[0] == want[1] {
		t.Error("the games tell the same", want)
	}
	var group sync.WaitGroup
	for i := range 16 {
		group.Go(func() {
			for range 5 {
				a := ask([]api.Rules{r, other}[i%2], p, 4, 4, 100)
				if a != want[i%2] {
					t.Error(i, a, want[i%2])
				}
			}
		})
	}
	group.Wait()
}

// atWork counts the goroutines that are there, but for those that the tests or
// the runtime began. All of them are held still while they are listed;
// runtime.NumGoroutine adds up numbers that change meanwhile, so that it tells
// too many at times.
func atWork(t *testing.T) int {
	t.Helper()
	list := make([]byte, 1<<20)
	size := runtime.Stack(list, true)
	if size == len(list) {
		t.Fatal("there is no room for all goroutines")
	}
	n := 0
	for stack := range strings.SplitSeq(string(list[:size]), "\n\n") {
		_, creator, ok := strings.Cut(stack, "\ncreated by ")
		if ok && !isBeside(creator) {
			n++
		}
	}
	return n
}

// isBeside tells of who began a goroutine whether that is not the program.
func isBeside(creator string) bool {
	for _, name := range []string{"runtime.", "testing.", "parlour/search_test."} {
		if strings.HasPrefix(creator, name) {
			return true
		}
	}
	return false
}

// settled waits, for some time at most, until nobody is at work any more: one
// that has said that it is done may still be there for a moment.
func settled(t *testing.T) bool {
	t.Helper()
	for range 10000 {
		if atWork(t) == 0 {
			return true
		}
		time.Sleep(time.Millisecond)
	}
	return false
}

// Whoever is begun, by whatever means, is counted.
func TestAtWork(t *testing.T) {
	if !settled(t) {
		t.Fatal("goroutines of other tests are left")
	}
	for _, workers := range []int{1, 2, 5, 16, 17} {
		end := make(chan int)
		var group sync.WaitGroup
		for range workers {
			group.Go(func() { <-end })
		}
		if n := atWork(t); n != workers {
			t.Error(n, "goroutines, not", workers)
		}
		close(end)
		group.Wait()
		if !settled(t) {
			t.Fatal("goroutines are left")
		}
	}
}

func TestGoroutines(t *testing.T) {
	empty := strings.Repeat("......../", 4)
	r := game(t, "start pppppppp/pppppppp/"+empty+"PPPPPPPP/PPPPPPPP w -/-",
		"piece P 1: step 0 1 quiet, step 1 1", "reach P", "stuck", "plies 200")
	if !settled(t) {
		t.Fatal("goroutines of other tests are left")
	}
	for _, workers := range []int{1, 2, 5, 16} {
		done := make(chan answer)
		go func() { done <- ask(r, r.Start, 5, workers, 1000) }()
		most := 0
		for running := true; running; {
			select {
			case a := <-done:
				running = false
				if a.err != api.OK || a.score != 0 || !a.some {
					t.Error(workers, a)
				}
			default:
				most = max(most, atWork(t))
				runtime.Gosched()
			}
		}
		if most > workers {
			t.Error(most, "goroutines, not", workers)
		}
		if !settled(t) {
			t.Fatal(workers, "workers: goroutines are left")
		}
	}
}
