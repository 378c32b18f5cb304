package record_test

import (
	"math/rand"
	"slices"
	"strings"
	"testing"

	"parlour/api"
	"parlour/board"
	"parlour/moves"
	"parlour/record"
	"parlour/rules"
)

func game(t *testing.T, lines ...string) api.Rules {
	t.Helper()
	r, f := rules.Read(strings.Join(lines, "\n") + "\n")
	if f.Code != api.OK {
		t.Fatal(lines, f)
	}
	return r
}

func kings(t *testing.T) api.Rules {
	return game(t, "start ..k/.../K.. w -/-", "piece K 3: leap 0 1, leap 1 1", "lose K", "plies 3")
}

func three(t *testing.T) api.Rules {
	return game(t, "start .../.../... w PPPPP/PPPP", "piece P 1", "drops", "line 3", "plies 9")
}

// played tells what Play must answer: behind is the text of a position, or
// empty where there is an error.
func played(t *testing.T, r api.Rules, text, behind string, way []int, want api.Errno) {
	t.Helper()
	l, f := record.Read(text)
	if f.Code != api.OK {
		t.Fatal(text, f)
	}
	p, w, e := record.Play(r, l)
	s, _ := board.Write(p)
	if s != behind || !slices.Equal(w, way) || e != want || want != api.OK && p != (api.Position{}) {
		t.Errorf("%q: %q %v %v, not %q %v %v", text, s, w, e, behind, way, want)
	}
}

func TestMainLine(t *testing.T) {
	r := kings(t)
	for _, x := range []struct{ text, behind string }{
		{"", "..k/.../K.. w -/-"},
		{"Ka1-b1", "..k/.../.K. b -/-"},
		{"Ka1-b1 (Ka1-a2) (Ka1-b2)", "..k/.../.K. b -/-"},
		{"Ka1-b1 {nothing is said of it} Kc3-b3", ".k./.../.K. w -/-"},
		{"Ka1-a2 (Ka1-b1 Kc3-c2 Kb1-a1) Kc3-b3 (Kc3-c2)", ".k./K../... w -/-"},
		{"Ka1-b1 (Ka1-b2 Kc3xb2) Kc3-b2 Kb1xb2", ".../.K./... b -/-"},
		// How many moves a game in the house may have is nothing to a record.
		{"Ka1-b1 Kc3-b3 Kb1-a1 Kb3-c3 Ka1-b1 Kc3-b3", ".k./.../.K. w -/-"},
		// The same move may stand twice.
		{"Ka1-b1 (Ka1-b1 Kc3-b3) (Ka1-b1)", "..k/.../.K. b -/-"},
	} {
		played(t, r, x.text, x.behind, nil, api.OK)
	}
}

func TestMovesThatAreNone(t *testing.T) {
	r := kings(t)
	for _, x := range []struct {
		text string
		way  []int
	}{
		{"a", []int{0}}, {"Ka1-c1", []int{0}}, {"ka1-b1", []int{0}}, {"Ka1xb1", []int{0}}, {"Kc3-b3", []int{0}}, {"Ka1-b1\t", []int{0}}, {"K@a2", []int{0}},
		{"Ka1-b1 Ka1-b1", []int{0, 0}}, {"Ka1-b1 Kb1-a1", []int{0, 0}}, {"Ka1-b1 Kc3-b3 a", []int{0, 0, 0}},
		{"Ka1-b1 (a)", []int{1}}, {"Ka1-b1 (Ka1-b2) (a)", []int{2}}, {"Ka1-b1 (Ka1-b2 a) Kc3-b3", []int{1, 0}},
		{"Ka1-b1 Kc3-b3 (Kc3-c2) (Kc3-a3)", []int{0, 2}}, {"Ka1-b1 (Ka1-a2 Kc3-c2 (Kc3-b3 Ka2-a1 (Ka2-b1) (Ka2-c2)) Ka2-a3)", []int{1, 1, 2}},
		// What comes of a note is made ahead of what else might be done.
		{"Ka1-b1 (a) b", []int{0, 0}}, {"Ka1-b1 (a b) Kc3-b3 (c)", []int{0, 1}}, {"a (b) c", []int{0}}, {"Ka1-b1 (Ka1-b2) (a) Kc3-b3 (Kc3-c2 b) Kb1-a1 c", []int{0, 0, 0, 0}},
		{"Ka1-b1 (Ka1-b2 a) (b) Kc3-b3", []int{1, 0}},
		// What else might be done is done from where the first one is.
		{"Ka1-b1 (Kc3-b3)", []int{1}}, {"Ka1-b1 Kc3-b3 (Kb1-a1)", []int{0, 1}}, {"Ka1-b1 (Ka1-a2) Kc3-b3 Ka2-a3", []int{0, 0, 0}},
	} {
		played(t, r, x.text, "", x.way, api.ErrMove)
	}
}

func TestToTheEndAndOverIt(t *testing.T) {
	r := three(t)
	won := "P@a1 P@a2 P@b1 P@b2 P@c1"
	played(t, r, won, ".../pp./PPP b PP/PP", nil, api.OK)
	played(t, r, won+" P@c2", "", []int{0, 0, 0, 0, 0, 0}, api.ErrMove)
	played(t, r, "P@a1 P@a2 P@b1 P@b2 P@c3 (P@c1) (P@c2) P@c2", "..P/ppp/PP. w PP/P", nil, api.OK)
	played(t, r, "P@a1 P@a2 P@b1 P@b2 P@c3 (P@c1 P@c2) P@c2", "", []int{0, 0, 0, 0, 1, 0}, api.ErrMove)
	full := "P@a1 P@b1 P@c1 P@a2 P@b2 P@c3 P@c2 P@a3 P@b3"
	played(t, r, full, "pPp/pPP/PpP b -/-", nil, api.OK)
	played(t, r, full+" P@a1", "", slices.Repeat([]int{0}, 10), api.ErrMove)
	k := kings(t)
	played(t, k, "Ka1-b2 Kc3xb2", ".../.k./... w -/-", nil, api.OK)
	played(t, k, "Ka1-b2 Kc3xb2 Ka1-b1", "", []int{0, 0, 0}, api.ErrMove)
	s := game(t, "start K. w -/-", "piece K 3: step 1 0", "stuck", "plies 3")
	played(t, s, "Ka1-b1", ".K b -/-", nil, api.OK)
	played(t, s, "Ka1-b1 Kb1-a1", "", []int{0, 0}, api.ErrMove)
	over := game(t, "start K. w -/-", "piece K 3: leap 0 1", "lose K", "plies 3")
	played(t, over, "", "K. w -/-", nil, api.OK)
	played(t, over, "Ka1-b1", "", []int{0}, api.ErrMove)
}

func TestTheLongestAndTheWidest(t *testing.T) {
	r := kings(t)
	there := strings.Fields(strings.Repeat("Ka1-b1 Kc3-b3 Kb1-a1 Kb3-c3 ", 13))
	played(t, r, strings.Join(there[:50], " "), ".k./.../.K. w -/-", nil, api.OK)
	played(t, r, strings.Join(there[:49], " ")+" Kb3-c3", "", slices.Repeat([]int{0}, 50), api.ErrMove)
	played(t, r, strings.Join(there[:49], " ")+" Kc3-c2 (Kc3-b3) (a)", "", append(slices.Repeat([]int{0}, 49), 2), api.ErrMove)
	wide := "Ka1-a2" + strings.Repeat("(Ka1-b1)", 999)
	played(t, r, wide, "..k/K../... b -/-", nil, api.OK)
	played(t, r, wide[:len(wide)-8]+"(Ka1-c1)", "", []int{999}, api.ErrMove)
}

func TestWhatPlaySaysFirst(t *testing.T) {
	r := kings(t)
	bad := r
	bad.Plies = 0
	wrong, large, none := []api.Note{note("a b", "")}, row(1001), row(1)
	both := row(1001)
	both[1000].Comment = "}"
	for i, x := range []struct {
		r    api.Rules
		l    []api.Note
		want api.Errno
	}{
		{bad, nil, api.ErrArg}, {bad, wrong, api.ErrArg}, {bad, large, api.ErrArg}, {bad, none, api.ErrArg}, {api.Rules{}, none, api.ErrArg},
		{r, wrong, api.ErrArg}, {r, both, api.ErrArg}, {r, append(none, wrong...), api.ErrArg}, {r, []api.Note{note("a", "", wrong...)}, api.ErrArg},
		{r, large, api.ErrLarge}, {r, chain(51), api.ErrLarge},
	} {
		if p, w, e := record.Play(x.r, x.l); p != (api.Position{}) || w != nil || e != x.want {
			t.Error(i, p, w, e)
		}
	}
	if p, w, e := record.Play(r, none); p != (api.Position{}) || !slices.Equal(w, []int{0}) || e != api.ErrMove {
		t.Error(p, w, e)
	}
}

func TestStartIsCopied(t *testing.T) {
	r := three(t)
	r.Start.Cells = strings.Clone(r.Start.Cells)
	p, _, e := record.Play(r, nil)
	if p != r.Start || e != api.OK || shares(p.Cells, r.Start.Cells) || shares(p.Hands[0], r.Start.Hands[0]) || shares(p.Hands[1], r.Start.Hands[1]) {
		t.Error(p, e)
	}
}

// anyGame has moves that can be made, and now and then one that can not.
func anyGame(rnd *rand.Rand, r api.Rules, p api.Position, most *int, depth, faults int) []api.Note {
	var l []api.Note
	for depth > 0 && *most > 0 && rnd.Intn(6) < 4 {
		*most--
		can, _ := moves.Moves(r, p)
		if rnd.Intn(100) < faults || len(can) == 0 {
			l = append(l, note("Ka1-h8", "", anyGame(rnd, r, p, most, depth-1, faults)...))
			continue
		}
		m := can[rnd.Intn(len(can))]
		s, _ := moves.Text(r, p, m)
		q, _ := moves.Apply(r, p, m)
		l = append(l, note(s, "", anyGame(rnd, r, q, most, depth-1, faults)...))
	}
	return l
}

// ways are those to all notes, in the order in which they are played.
func ways(l []api.Note, ahead []int) [][]int {
	var all [][]int
	for i, n := range l {
		here := append(slices.Clone(ahead), i)
		all = append(append(all, here), ways(n.Next, here)...)
	}
	return all
}

// along makes all moves of a way, from the start.
func along(r api.Rules, l []api.Note, way []int) (api.Position, bool) {
	p := r.Start
	for _, i := range way {
		m, e := moves.Read(r, p, l[i].Move)
		if e != api.OK {
			return p, false
		}
		p, _ = moves.Apply(r, p, m)
		l = l[i].Next
	}
	return p, true
}

func TestAnyGame(t *testing.T) {
	rnd := rand.New(rand.NewSource(12))
	wrong := 0
	for i := range 600 {
		r := []api.Rules{kings(t), three(t)}[i%2]
		most := 30
		l := anyGame(rnd, r, r.Start, &most, 8, i%10)
		var way []int
		for _, w := range ways(l, nil) {
			if _, ok := along(r, l, w); !ok {
				way = w
				wrong++
				break
			}
		}
		p, w, e := record.Play(r, l)
		if way != nil {
			if p != (api.Position{}) || !slices.Equal(w, way) || e != api.ErrMove {
				t.Fatal(l, p, w, e, way)
			}
			continue
		}
		var first []int
		for next := l; len(next) > 0; next = next[0].Next {
			first = append(first, 0)
		}
		if q, _ := along(r, l, first); p != q || len(w) != 0 || e != api.OK {
			t.Fatal(l, p, w, e, q)
		}
	}
	if wrong < 100 || wrong > 500 {
		t.Error(wrong, "games with a wrong move: too few or too many to tell much")
	}
}
