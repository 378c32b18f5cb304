package rules_test

import (
	"math"
	"reflect"
	"slices"
	"strings"
	"testing"
	"unsafe"

	"parlour/api"
	"parlour/rules"
)

// fine has a value in each field, so that a test can spoil them one by one.
func fine() api.Rules {
	return api.Rules{
		Start: api.Position{W: 3, H: 2, Cells: "K.P..k", Turn: 1, Hands: [2]string{"PP", "KP"}},
		Pieces: []api.Piece{
			{Letter: 'K', Worth: 3, Ways: []api.Way{{Kind: api.Leap, X: 0, Y: 1}, {Kind: api.Slide, X: 1, Y: 1, Take: api.Take}}},
			{Letter: 'P', Worth: 1, Ways: []api.Way{{Kind: api.Step, X: 0, Y: 1, Take: api.Quiet}}},
			{Letter: 'Z'},
		},
		Drops: true,
		Lose:  'K',
		Line:  3,
		Reach: 'P',
		Stuck: true,
		Plies: 40,
	}
}

const fineText = "start ..k/K.P b PP/KP\n" +
	"piece K 3: leap 0 1, slide 1 1 take\n" +
	"piece P 1: step 0 1 quiet\n" +
	"piece Z 0\n" +
	"drops\n" +
	"lose K\n" +
	"line 3\n" +
	"reach P\n" +
	"stuck\n" +
	"plies 40\n"

// changedBy is fine, but for what is done to it.
func changedBy(change func(r *api.Rules)) api.Rules {
	r := fine()
	change(&r)
	return r
}

// withWay is fine, but for one way.
func withWay(w api.Way) api.Rules {
	return changedBy(func(r *api.Rules) { r.Pieces[0].Ways[1] = w })
}

func withWays(n int) api.Rules {
	return changedBy(func(r *api.Rules) {
		r.Pieces[1].Ways = slices.Repeat([]api.Way{{Kind: api.Leap, X: 1, Y: 2}}, n)
	})
}

// withPieces has so many pieces, of different letters, on an empty board.
func withPieces(n int) api.Rules {
	r := api.Rules{Start: api.Position{W: 1, H: 1, Cells: "."}, Plies: 1}
	for i := range n {
		r.Pieces = append(r.Pieces, api.Piece{Letter: 'A' + byte(i)})
	}
	return r
}

func rightRules() map[string]api.Rules {
	m := map[string]api.Rules{
		"fine":            fine(),
		"one piece":       withPieces(1),
		"ten pieces":      withPieces(10),
		"no ways":         withWays(0),
		"eight ways":      withWays(8),
		"Worth 0":         changedBy(func(r *api.Rules) { r.Pieces[0].Worth = 0 }),
		"Worth 100":       changedBy(func(r *api.Rules) { r.Pieces[0].Worth = 100 }),
		"no Drops":        changedBy(func(r *api.Rules) { r.Drops = false }),
		"no Stuck":        changedBy(func(r *api.Rules) { r.Stuck = false }),
		"Lose 0":          changedBy(func(r *api.Rules) { r.Lose = 0 }),
		"Lose, last one":  changedBy(func(r *api.Rules) { r.Lose = 'Z' }),
		"Reach 0":         changedBy(func(r *api.Rules) { r.Reach = 0 }),
		"Reach like Lose": changedBy(func(r *api.Rules) { r.Reach = 'K' }),
		"Line 0":          changedBy(func(r *api.Rules) { r.Line = 0 }),
		"Line 2":          changedBy(func(r *api.Rules) { r.Line = 2 }),
		"Line 8":          changedBy(func(r *api.Rules) { r.Line = 8 }),
		"Plies 1":         changedBy(func(r *api.Rules) { r.Plies = 1 }),
		"Plies 1000":      changedBy(func(r *api.Rules) { r.Plies = 1000 }),
		"small letters":   changedBy(func(r *api.Rules) { r.Start.Cells = "zzkkpp" }),
		"empty board":     changedBy(func(r *api.Rules) { r.Start = api.Position{W: 8, H: 8, Cells: strings.Repeat(".", 64)} }),
		"same way twice":  withWay(api.Way{Kind: api.Leap, X: 0, Y: 1}),
		"the same far":    withWay(api.Way{Kind: api.Slide, X: 7, Y: 7}),
		"step aside":      withWay(api.Way{Kind: api.Step, X: 7, Y: 0, Take: api.Take}),
		"leap 0 7":        withWay(api.Way{Kind: api.Leap, X: 0, Y: 7, Take: api.Quiet}),
		"nothing but one": {Start: api.Position{W: 1, H: 1, Cells: "q"}, Pieces: []api.Piece{{Letter: 'Q', Ways: []api.Way{}}}, Plies: 7},
	}
	m["pieces from Z on"] = changedBy(func(r *api.Rules) { slices.Reverse(r.Pieces) })
	return m
}

func wrongRules() map[string]api.Rules {
	m := map[string]api.Rules{
		"zero":                 {},
		"no position":          changedBy(func(r *api.Rules) { r.Start = api.Position{} }),
		"too few cells":        changedBy(func(r *api.Rules) { r.Start.Cells = "K.P.." }),
		"Turn 2":               changedBy(func(r *api.Rules) { r.Start.Turn = 2 }),
		"hand falls":           changedBy(func(r *api.Rules) { r.Start.Hands[0] = "PK" }),
		"no pieces":            withPieces(0),
		"eleven pieces":        withPieces(11),
		"26 pieces":            withPieces(26),
		"letter 0":             changedBy(func(r *api.Rules) { r.Pieces[2].Letter = 0 }),
		"small letter":         changedBy(func(r *api.Rules) { r.Pieces[2].Letter = 'z' }),
		"ahead of A":           changedBy(func(r *api.Rules) { r.Pieces[2].Letter = '@' }),
		"behind Z":             changedBy(func(r *api.Rules) { r.Pieces[2].Letter = '[' }),
		"greatest byte":        changedBy(func(r *api.Rules) { r.Pieces[2].Letter = 255 }),
		"a letter twice":       changedBy(func(r *api.Rules) { r.Pieces[2].Letter = 'K' }),
		"last letter twice":    changedBy(func(r *api.Rules) { r.Pieces = append(r.Pieces, api.Piece{Letter: 'Z', Worth: 1}) }),
		"nine ways":            withWays(9),
		"board has no piece":   changedBy(func(r *api.Rules) { r.Start.Cells = "K.P..Q" }),
		"small has no piece":   changedBy(func(r *api.Rules) { r.Start.Cells = "K.P..q" }),
		"hand has no piece":    changedBy(func(r *api.Rules) { r.Start.Hands[0] = "PQ" }),
		"other has no piece":   changedBy(func(r *api.Rules) { r.Start.Hands[1] = "A" }),
		"hand without drops":   changedBy(func(r *api.Rules) { r.Drops, r.Start.Hands[1] = false, "A" }),
		"Lose is no piece":     changedBy(func(r *api.Rules) { r.Lose = 'Q' }),
		"Reach is no piece":    changedBy(func(r *api.Rules) { r.Reach = 'Q' }),
		"way of kind 0":        withWay(api.Way{Kind: 0, X: 0, Y: 1}),
		"way of kind 4":        withWay(api.Way{Kind: 4, X: 0, Y: 1}),
		"way of kind -1":       withWay(api.Way{Kind: -1, X: 0, Y: 1}),
		"Take 3":               withWay(api.Way{Kind: api.Leap, X: 0, Y: 1, Take: 3}),
		"Take -1":              withWay(api.Way{Kind: api.Step, X: 0, Y: 1, Take: -1}),
		"leap, X above Y":      withWay(api.Way{Kind: api.Leap, X: 2, Y: 1}),
		"slide, X above Y":     withWay(api.Way{Kind: api.Slide, X: 1, Y: 0}),
		"way of the last":      changedBy(func(r *api.Rules) { r.Pieces[2].Ways = []api.Way{{Kind: api.Step}} }),
		"empty board, a piece": {Start: api.Position{W: 1, H: 1, Cells: "."}, Pieces: []api.Piece{{Letter: 'A'}}},
	}
	for _, c := range []byte{'k', '.', '-', '@', '[', 1, 'K' + 32, 'K' - 32, 'K' + 128, 255} {
		m["Lose "+string([]byte{c})] = changedBy(func(r *api.Rules) { r.Lose = c })
		m["Reach "+string([]byte{c})] = changedBy(func(r *api.Rules) { r.Reach = c })
	}
	for name, n := range map[string]int{"least": math.MinInt, "-1": -1, "9999": 9999, "2^32+3": 1<<32 + 3, "greatest": math.MaxInt} {
		m["Worth "+name] = changedBy(func(r *api.Rules) { r.Pieces[2].Worth = n })
		m["Line "+name] = changedBy(func(r *api.Rules) { r.Line = n })
		m["Plies "+name] = changedBy(func(r *api.Rules) { r.Plies = n })
		m["X "+name] = withWay(api.Way{Kind: api.Step, X: n, Y: 1})
		m["Y "+name] = withWay(api.Way{Kind: api.Leap, X: 0, Y: n})
	}
	m["Worth 101"] = changedBy(func(r *api.Rules) { r.Pieces[0].Worth = 101 })
	m["Line 1"] = changedBy(func(r *api.Rules) { r.Line = 1 })
	m["Line 9"] = changedBy(func(r *api.Rules) { r.Line = 9 })
	m["Plies 0"] = changedBy(func(r *api.Rules) { r.Plies = 0 })
	m["Plies 1001"] = changedBy(func(r *api.Rules) { r.Plies = 1001 })
	m["X 8"] = withWay(api.Way{Kind: api.Step, X: 8, Y: 1})
	m["Y 8"] = withWay(api.Way{Kind: api.Leap, X: 0, Y: 8})
	for name, kind := range map[string]int{"leap": api.Leap, "slide": api.Slide, "step": api.Step} {
		m[name+" to nowhere"] = withWay(api.Way{Kind: kind})
	}
	return m
}

func TestCheckTakesRules(t *testing.T) {
	for name, r := range rightRules() {
		if e := rules.Check(r); e != api.OK {
			t.Error(name, e)
		}
	}
}

func TestWrongRules(t *testing.T) {
	for name, r := range wrongRules() {
		if e := rules.Check(r); e != api.ErrArg {
			t.Error(name, "Check:", e)
		}
		if s, e := rules.Write(r); s != "" || e != api.ErrArg {
			t.Error(name, "Write:", s, e)
		}
	}
}

// All ways that are near to right ones, against the promise's own words.
func TestCheckOfWays(t *testing.T) {
	for kind := -1; kind <= 4; kind++ {
		for x := -1; x <= 8; x++ {
			for y := -1; y <= 8; y++ {
				for take := -1; take <= 3; take++ {
					right := 1 <= kind && kind <= 3 && 0 <= x && x <= 7 && 0 <= y && y <= 7 &&
						x+y > 0 && (kind == api.Step || x <= y) && 0 <= take && take <= 2
					w := api.Way{Kind: kind, X: x, Y: y, Take: take}
					if e := rules.Check(withWay(w)); (e == api.OK) != right {
						t.Errorf("%+v: %v", w, e)
					}
				}
			}
		}
	}
}

// Each byte as a piece's letter, as Lose and as Reach.
func TestCheckOfLetters(t *testing.T) {
	for n := range 256 {
		c := byte(n)
		r := api.Rules{Start: api.Position{W: 1, H: 1, Cells: "."}, Pieces: []api.Piece{{Letter: c}}, Lose: c, Reach: c, Plies: 1}
		if e := rules.Check(r); (e == api.OK) != ('A' <= c && c <= 'Z') {
			t.Error("piece", n, e)
		}
		right := c == 0 || c == 'K' || c == 'P' || c == 'Z'
		if e := rules.Check(changedBy(func(r *api.Rules) { r.Lose = c })); (e == api.OK) != right {
			t.Error("Lose", n, e)
		}
		if e := rules.Check(changedBy(func(r *api.Rules) { r.Reach = c })); (e == api.OK) != right {
			t.Error("Reach", n, e)
		}
	}
}

// roomy is fine with spare room behind each list, filled with what is not to change.
func roomy() api.Rules {
	r := fine()
	spare := []api.Way{{Kind: 9, X: 9, Y: 9, Take: 9}, {Kind: 8}}
	for i, p := range r.Pieces {
		r.Pieces[i].Ways = append(slices.Clone(p.Ways), spare...)[:len(p.Ways)]
	}
	n := len(r.Pieces)
	r.Pieces = append(r.Pieces, api.Piece{Letter: 1, Worth: -1}, api.Piece{Letter: 2})[:n]
	return r
}

// withRoom is a copy of all that is behind the lists, spare room included.
func withRoom(r api.Rules) api.Rules {
	r.Pieces = slices.Clone(r.Pieces[:cap(r.Pieces)])
	for i, p := range r.Pieces {
		r.Pieces[i].Ways = slices.Clone(p.Ways[:cap(p.Ways)])
	}
	return r
}

func TestWhatIsHandedInStays(t *testing.T) {
	r := roomy()
	before := withRoom(r)
	rules.Check(r)
	if s, e := rules.Write(r); s != fineText || e != api.OK {
		t.Error(s, e)
	}
	if after := withRoom(r); !reflect.DeepEqual(before, after) {
		t.Errorf("%+v became %+v", before, after)
	}
}

func within(part, text string) bool {
	from, to := uintptr(unsafe.Pointer(unsafe.StringData(part))), uintptr(unsafe.Pointer(unsafe.StringData(text)))
	return from < to+uintptr(len(text)) && to < from+uintptr(len(part))
}

func TestAnswersAreNewMemory(t *testing.T) {
	text := strings.Clone(strings.Replace(fineText, "..k/K.P", "..k", 1))
	r, f := rules.Read(text)
	if f != (api.Fault{}) {
		t.Fatal(f)
	}
	for _, s := range []string{r.Start.Cells, r.Start.Hands[0], r.Start.Hands[1]} {
		if len(s) < 2 || within(s, text) {
			t.Errorf("%q is memory that was handed in", s)
		}
	}
	// What is written behind one list must not be seen in any other.
	before := withRoom(r)
	for i, p := range r.Pieces {
		for j := range 8 {
			if j < cap(p.Ways) {
				p.Ways[:cap(p.Ways)][j].X = 10*i + j
				before.Pieces[i].Ways[j].X = 10*i + j
			}
		}
	}
	if after := withRoom(r); !reflect.DeepEqual(before, after) {
		t.Errorf("%+v became %+v", before, after)
	}
	again, _ := rules.Read(text)
	if again.Pieces[0].Ways[0].X != 0 || again.Pieces[1].Ways[0].X != 0 {
		t.Errorf("%+v was kept", again)
	}
}

func TestCheckPosition(t *testing.T) {
	r := fine()
	for _, x := range []struct {
		p    api.Position
		want api.Errno
	}{
		{r.Start, api.OK},
		{api.Position{W: 3, H: 2, Cells: "......"}, api.OK},
		{api.Position{W: 3, H: 2, Cells: "zZkKpP", Turn: 1, Hands: [2]string{"KPZ", "ZZZZZZZZ"}}, api.OK},
		{api.Position{W: 2, H: 3, Cells: "......"}, api.ErrArg},
		{api.Position{W: 3, H: 1, Cells: "..."}, api.ErrArg},
		{api.Position{W: 3, H: 2, Cells: "....."}, api.ErrArg},
		{api.Position{W: 3, H: 2, Cells: "...A.."}, api.ErrArg},
		{api.Position{W: 3, H: 2, Cells: "...a.."}, api.ErrArg},
		{api.Position{W: 3, H: 2, Cells: "......", Hands: [2]string{"A", ""}}, api.ErrArg},
		{api.Position{W: 3, H: 2, Cells: "......", Hands: [2]string{"", "KL"}}, api.ErrArg},
		{api.Position{}, api.ErrArg},
	} {
		if e := rules.CheckPosition(r, x.p); e != x.want {
			t.Errorf("%+v: %v", x.p, e)
		}
	}
	r.Plies = 0
	if e := rules.CheckPosition(r, r.Start); e != api.ErrArg {
		t.Error(e)
	}
}
