package moves_test

import (
	"math/rand"
	"slices"
	"sort"
	"strings"
	"testing"

	"parlour/api"
	"parlour/board"
	"parlour/moves"
	"parlour/rules"
)

// What stands here says the promises over again, in another way and slowly:
// not where a piece goes, but whether it gets from one cell to another.

func ownerOf(c byte) int {
	switch {
	case c == '.':
		return -1
	case c >= 'a':
		return 1
	}
	return 0
}

func size(n int) int { return max(n, -n) }

func getsTo(p api.Position, w api.Way, from, to int) bool {
	dx, dy := to%p.W-from%p.W, to/p.W-from/p.W
	switch w.Kind {
	case api.Step:
		if p.Turn == 1 {
			dy = -dy
		}
		return size(dx) == w.X && dy == w.Y
	case api.Leap:
		return min(size(dx), size(dy)) == w.X && max(size(dx), size(dy)) == w.Y
	}
	for k := 1; k <= 7; k++ {
		if min(size(dx), size(dy)) != k*w.X || max(size(dx), size(dy)) != k*w.Y {
			continue
		}
		free := true
		for j := 1; j < k; j++ {
			free = free && p.Cells[(from/p.W+dy/k*j)*p.W+from%p.W+dx/k*j] == '.'
		}
		return free
	}
	return false
}

func slowMoves(r api.Rules, p api.Position) []api.Move {
	l := []api.Move{}
	for to := range p.Cells {
		for from := range p.Cells {
			if ownerOf(p.Cells[from]) != p.Turn || ownerOf(p.Cells[to]) == p.Turn {
				continue
			}
			letter := strings.ToUpper(p.Cells[from : from+1])[0]
			piece := r.Pieces[slices.IndexFunc(r.Pieces, func(x api.Piece) bool { return x.Letter == letter })]
			if slices.ContainsFunc(piece.Ways, func(w api.Way) bool {
				unfit := api.Take
				if p.Cells[to] != '.' {
					unfit = api.Quiet
				}
				return w.Take != unfit && getsTo(p, w, from, to)
			}) {
				l = append(l, api.Move{From: from, To: to, Piece: letter})
			}
		}
		for c := byte('A'); c <= 'Z'; c++ {
			if r.Drops && p.Cells[to] == '.' && strings.Contains(p.Hands[p.Turn], string(c)) {
				l = append(l, api.Move{From: -1, To: to, Piece: c})
			}
		}
	}
	sort.Slice(l, func(i, j int) bool {
		a, b := l[i], l[j]
		if a.From != b.From {
			return a.From < b.From
		}
		if a.To != b.To {
			return a.To < b.To
		}
		return a.Piece < b.Piece
	})
	return l
}

// rays are all rows, columns and slants of a board, as the owners along them.
func rays(p api.Position) []string {
	byRay := map[[2]int][]byte{}
	for i := range p.Cells {
		x, y := i%p.W, i/p.W
		mark := ".wb"[ownerOf(p.Cells[i])+1]
		for _, key := range [][2]int{{0, y}, {1, x}, {2, x + y}, {3, x - y}} {
			byRay[key] = append(byRay[key], mark)
		}
	}
	var l []string
	for _, ray := range byRay {
		l = append(l, string(ray))
	}
	return l
}

func slowOutcome(r api.Rules, p api.Position) int {
	has := func(where string, player int, letter byte) bool {
		s := string(letter)
		if player == 1 {
			s = strings.ToLower(s)
		}
		return strings.Contains(where, s)
	}
	last := [2]string{p.Cells[(p.H-1)*p.W:], p.Cells[:p.W]}
	me := p.Turn
	for _, player := range []int{me, 1 - me} {
		if r.Lose != 0 && !has(p.Cells, player, r.Lose) {
			return 2 - player
		}
	}
	for _, player := range []int{1 - me, me} {
		line := strings.Repeat("wb"[player:player+1], r.Line)
		if r.Line != 0 && slices.ContainsFunc(rays(p), func(s string) bool { return strings.Contains(s, line) }) {
			return 1 + player
		}
	}
	for _, player := range []int{1 - me, me} {
		if r.Reach != 0 && has(last[player], player, r.Reach) {
			return 1 + player
		}
	}
	if len(slowMoves(r, p)) > 0 {
		return api.Open
	}
	if r.Stuck {
		return 2 - me
	}
	return api.Draw
}

func slowApply(r api.Rules, p api.Position, m api.Move) api.Position {
	set := func(cell int, s string) { p.Cells = p.Cells[:cell] + s + p.Cells[cell+1:] }
	hand := strings.Split(p.Hands[p.Turn], "")
	if m.From < 0 {
		i := slices.Index(hand, string(m.Piece))
		hand = slices.Delete(hand, i, i+1)
	} else {
		set(m.From, ".")
	}
	if p.Cells[m.To] != '.' && r.Drops && len(hand) < 8 {
		hand = append(hand, strings.ToUpper(p.Cells[m.To:m.To+1]))
	}
	if p.Turn == 0 {
		set(m.To, string(m.Piece))
	} else {
		set(m.To, strings.ToLower(string(m.Piece)))
	}
	sort.Strings(hand)
	p.Hands[p.Turn] = strings.Join(hand, "")
	p.Turn = 1 - p.Turn
	return p
}

// slowCounts are the numbers of ways of each depth up to that one, or up to
// the first one that is too large.
func slowCounts(r api.Rules, p api.Position, depth int) []int {
	level, l := []api.Position{p}, []int{1}
	for range depth {
		var next []api.Position
		for _, q := range level {
			if len(next) > 100000 || slowOutcome(r, q) != api.Open {
				continue
			}
			for _, m := range slowMoves(r, q) {
				next = append(next, slowApply(r, q, m))
			}
		}
		level, l = next, append(l, len(next))
		if len(next) > 100000 {
			break
		}
	}
	return l
}

func slowText(p api.Position, m api.Move) string {
	cell := func(i int) string { return "abcdefgh"[i%p.W:i%p.W+1] + "12345678"[i/p.W:i/p.W+1] }
	s := string(m.Piece)
	if m.From < 0 {
		return s + "@" + cell(m.To)
	}
	between := "x"
	if p.Cells[m.To] == '.' {
		between = "-"
	}
	return s + cell(m.From) + between + cell(m.To)
}

func randomWay(rnd *rand.Rand) api.Way {
	w := api.Way{Kind: 1 + rnd.Intn(3), X: rnd.Intn(3), Y: rnd.Intn(4), Take: rnd.Intn(3)}
	if rnd.Intn(8) == 0 {
		w.X, w.Y = rnd.Intn(8), rnd.Intn(8)
	}
	if w.Kind != api.Step && w.X > w.Y {
		w.X, w.Y = w.Y, w.X
	}
	if w.X == 0 && w.Y == 0 {
		w.Y = 1
	}
	return w
}

func randomHand(rnd *rand.Rand, letters string) string {
	hand := make([]byte, max(0, rnd.Intn(14)-5))
	for i := range hand {
		hand[i] = letters[rnd.Intn(len(letters))]
	}
	slices.Sort(hand)
	return string(hand)
}

func randomPosition(rnd *rand.Rand, w, h int, letters string) api.Position {
	cells := make([]byte, w*h)
	full := rnd.Intn(11)
	for i := range cells {
		cells[i] = '.'
		if rnd.Intn(10) < full {
			cells[i] = letters[rnd.Intn(len(letters))] + byte(32*rnd.Intn(2))
		}
	}
	return api.Position{W: w, H: h, Cells: string(cells), Turn: rnd.Intn(2), Hands: [2]string{randomHand(rnd, letters), randomHand(rnd, letters)}}
}

func randomGame(rnd *rand.Rand, side int) (api.Rules, api.Position) {
	letters := []byte("ABCDEFGHIJKLMNOPQRSTUVWXYZ")
	rnd.Shuffle(26, func(i, j int) { letters[i], letters[j] = letters[j], letters[i] })
	letters = letters[:1+rnd.Intn(1+rnd.Intn(10))]
	w, h := 1+rnd.Intn(side), 1+rnd.Intn(side)
	r := api.Rules{
		Start: randomPosition(rnd, w, h, string(letters)),
		Drops: rnd.Intn(2) == 0,
		Stuck: rnd.Intn(2) == 0,
		Plies: 1 + rnd.Intn(1000),
	}
	for _, c := range letters {
		piece := api.Piece{Letter: c, Worth: rnd.Intn(101)}
		for range rnd.Intn(5) {
			piece.Ways = append(piece.Ways, randomWay(rnd))
		}
		r.Pieces = append(r.Pieces, piece)
	}
	if rnd.Intn(3) == 0 {
		r.Lose = letters[rnd.Intn(len(letters))]
	}
	if rnd.Intn(3) == 0 {
		r.Line = 2 + rnd.Intn(1+rnd.Intn(7))
	}
	if rnd.Intn(3) == 0 {
		r.Reach = letters[rnd.Intn(len(letters))]
	}
	return r, randomPosition(rnd, w, h, string(letters))
}

func TestManyGames(t *testing.T) {
	rnd := rand.New(rand.NewSource(3))
	var outcomes [4]int
	for range 4000 {
		r, p := randomGame(rnd, 8)
		want := slowOutcome(r, p)
		outcomes[want]++
		if o, e := moves.Outcome(r, p); o != want || e != api.OK {
			t.Fatalf("%+v %+v: Outcome %d %v, not %d", r, p, o, e, want)
		}
		var all []api.Move
		if want == api.Open {
			all = slowMoves(r, p)
		}
		l, e := moves.Moves(r, p)
		if !slices.Equal(l, all) || e != api.OK {
			t.Fatalf("%+v %+v: %v %v, not %v", r, p, l, e, all)
		}
		var behind []api.Position
		for _, m := range all {
			behind = append(behind, slowApply(r, p, m))
		}
		if l, next, e := moves.Next(r, p); !slices.Equal(l, all) || !slices.Equal(next, behind) || e != api.OK {
			t.Fatalf("%+v %+v: Next %v %v %v, not %v %v", r, p, l, next, e, all, behind)
		}
		for _, i := range rnd.Perm(len(all))[:min(len(all), 20)] {
			m, s := all[i], slowText(p, all[i])
			if q, e := moves.Apply(r, p, m); q != slowApply(r, p, m) || e != api.OK || rules.CheckPosition(r, q) != api.OK {
				t.Fatalf("%+v %+v %v: %+v %v", r, p, m, q, e)
			}
			if q := moves.Behind(r, p, m); q != slowApply(r, p, m) {
				t.Fatalf("%+v %+v %v: Behind %+v", r, p, m, q)
			}
			if u, e := moves.Text(r, p, m); u != s || e != api.OK {
				t.Fatalf("%+v %v: %s %v, not %s", p, m, u, e, s)
			}
			if u, e := moves.Read(r, p, s); u != m || e != api.OK {
				t.Fatalf("%+v %s: %v %v, not %v", p, s, u, e, m)
			}
		}
	}
	for o, n := range outcomes {
		if n < 100 {
			t.Error("outcome", o, "came only", n, "times")
		}
	}
}

func TestManyCounts(t *testing.T) {
	rnd := rand.New(rand.NewSource(4))
	fit, tooLarge := 0, 0
	for range 60 {
		r, p := randomGame(rnd, 4)
		l := slowCounts(r, p, 6)
		for depth := range 7 {
			n, e := moves.Count(r, p, depth)
			if depth >= len(l) || l[depth] > 100000 {
				tooLarge++
				if n != 0 || e != api.ErrLarge {
					t.Fatalf("%+v %+v: depth %d: %d %v, not too large as of %v", r, p, depth, n, e, l)
				}
				continue
			}
			fit++
			if n != l[depth] || e != api.OK {
				t.Fatalf("%+v %+v: depth %d: %d %v, not of %v", r, p, depth, n, e, l)
			}
		}
	}
	if fit < 300 || tooLarge < 5 {
		t.Error(fit, tooLarge)
	}
}

// The rules are the same for both: players who change places change nothing.
func TestPlayersChangePlaces(t *testing.T) {
	rnd := rand.New(rand.NewSource(5))
	for range 500 {
		r, p := randomGame(rnd, 5)
		q, _ := board.Swapped(p)
		a, _ := moves.Outcome(r, p)
		b, _ := moves.Outcome(r, q)
		if b != []int{api.Open, api.Second, api.First, api.Draw}[a] {
			t.Fatalf("%+v %+v: %d and %d", r, p, a, b)
		}
		m, e := moves.Count(r, p, 2)
		n, f := moves.Count(r, q, 2)
		if m != n || e != f {
			t.Fatalf("%+v %+v: %d %v and %d %v", r, p, m, e, n, f)
		}
	}
}
