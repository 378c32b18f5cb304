package house_test

import (
	"math"
	"math/rand"
	"slices"
	"strings"
	"testing"

	"parlour/api"
	"parlour/house"
)

// player makes messages up, some of which can be taken.
type player struct {
	*rand.Rand
	s *story
}

func oneOf[T any](r *rand.Rand, l ...T) T { return l[r.Intn(len(l))] }

func (p player) one() api.Msg {
	pos, now := p.s.pos(), p.s.now()
	left := p.s.left(pos.Turn)
	m := api.Msg{Seat: pos.Turn, Ply: len(p.s.moves), Move: p.move(pos), At: now + p.Intn(4)}
	switch p.Intn(24) {
	case 0:
		m.At = oneOf(p.Rand, math.MinInt, -1, 0, now-1, now)
	case 1:
		m.At = now + left
	case 2:
		if p.Intn(4) == 0 {
			m.At = oneOf(p.Rand, now+left+1, now+left+9, math.MaxInt)
		}
	case 3, 4:
		m.Seat = oneOf(p.Rand, 1-m.Seat, 1-m.Seat, 2, -1, m.Seat+2, math.MinInt)
	case 5, 6:
		m.Ply = oneOf(p.Rand, m.Ply-1, m.Ply-1, m.Ply+1, m.Ply+2, 0, -1, math.MaxInt)
	case 7, 8:
		m.Move = p.noMove(m.Move)
	case 9: // An old one comes again.
		if n := len(p.s.moves); n > 0 {
			i := p.Intn(n)
			m = api.Msg{Seat: (p.s.r.Start.Turn + i) % 2, Ply: i, Move: p.s.moves[i], At: p.s.whens[i]}
		}
	case 10:
		m = api.Msg{Seat: p.Intn(2), Ply: p.Intn(4), Move: p.noMove(m.Move), At: now + p.Intn(4)}
	}
	return m
}

func (p player) move(pos api.Position) string {
	var l []string
	for s := range texts(p.s.r, pos) {
		l = append(l, s)
	}
	if len(l) == 0 {
		return "Ka1-a2"
	}
	slices.Sort(l)
	return oneOf(p.Rand, l...)
}

func (p player) noMove(s string) string {
	return oneOf(p.Rand, "", "?", s+" ", " "+s, s+"\n", s[:len(s)-1], strings.ToLower(s), strings.ReplaceAll(s, "-", "x"), "Ka1-a1", "Zz9xz9", "\xff")
}

// seen counts what came up.
type seen map[[2]int]int

func (n seen) atLeast(t *testing.T, least int, kind, outcome int) {
	t.Helper()
	if n[[2]int{kind, outcome}] < least {
		t.Error("kind", kind, "outcome", outcome, "came up just", n[[2]int{kind, outcome}], "times")
	}
}

func (p player) goOn(t *testing.T, h *house.House, n int, count seen) {
	t.Helper()
	for range n {
		m := p.one()
		got, want := h.Take(m), p.s.take(m)
		if got != want {
			t.Fatal(m, got, "not", want, p.s)
		}
		if a, b := h.Save(), p.s.save(); a != b {
			t.Fatalf("%q, not %q", a, b)
		}
		count[[2]int{want.Kind, want.Outcome}]++
	}
}

func TestTakeOfManyGames(t *testing.T) {
	all := games(t)
	for _, name := range inOrder(all) {
		r, rnd, count := all[name], rand.New(rand.NewSource(31)), seen{}
		for range 150 {
			time := oneOf(rnd, 1, 2, 5, 9, 20, 1000000)
			p := player{rnd, &story{r: r, time: time}}
			p.goOn(t, newHouse(t, r, time), 25, count)
		}
		ends := map[string][]int{
			"kings": {1, 2}, "pawns": {1, 2}, "noughts": {1, 2, 3}, "walk": {1, 2, 3}, "full": {1, 2, 3},
			"one": {1, 3}, "two": {1, 2}, "won": {1}, "lost": {2}, "still": {3},
		}
		for _, outcome := range ends[name] {
			count.atLeast(t, 20, api.Over, outcome)
		}
		kinds := []int{api.Done, api.Stale, api.Wait, api.Bad}
		switch name {
		case "won", "lost", "still":
			kinds = nil
		case "one":
			kinds = kinds[1:]
		}
		for _, kind := range kinds {
			count.atLeast(t, 10, kind, api.Open)
		}
	}
}

// What a crash leaves is opened, wherever it breaks off, and goes on as it would
// have.
func TestOpenOfWhatACrashLeaves(t *testing.T) {
	all, rnd, count, ends := games(t), rand.New(rand.NewSource(33)), seen{}, map[int]int{}
	for _, name := range inOrder(all) {
		r := all[name]
		for range 10 {
			time := oneOf(rnd, 5, 9, 20, 1000000)
			p := player{rnd, &story{r: r, time: time}}
			h := newHouse(t, r, time)
			p.goOn(t, h, 20, count)
			text := h.Save()
			for end := range len(text) + 1 {
				g, n, e := house.Open(r, time, text[:end])
				s := opened(r, time, text[:end])
				if e != api.OK || n != strings.Count(text[:end], "\n") || n != len(s.moves) || g.Save() != s.save() {
					t.Fatal(name, n, e, text[:end])
				}
				player{rnd, s}.goOn(t, g, 4, count)
				ends[n]++
			}
		}
	}
	for n := range 8 {
		if ends[n] < 50 {
			t.Error(n, "lines came up just", ends[n], "times")
		}
	}
}

// spoilt is a text that has been changed somewhere.
func spoilt(r *rand.Rand, s string) string {
	l := strings.SplitAfter(s, "\n")
	i := r.Intn(len(l))
	switch r.Intn(5) {
	case 0: // A line is gone, or comes again.
		if r.Intn(2) == 0 {
			l[i] = ""
		} else {
			l[i] += l[i]
		}
	case 1: // Two change places.
		j := r.Intn(len(l))
		l[i], l[j] = l[j], l[i]
	case 2, 3: // Something else stands in a line.
		at := r.Intn(len(l[i]) + 1)
		with := oneOf(r, "0", "1", "2", "9", " ", "\n", "+", "-", "_", "", "x", "\r", "99999999999999999999", "9223372036854775807")
		l[i] = l[i][:at] + with + l[i][min(at+r.Intn(2), len(l[i])):]
	case 4: // Other times.
		words := strings.SplitN(l[i], " ", 3)
		if len(words) == 3 {
			words[1] = oneOf(r, "0", "1", "3", "5", "05", "+3", "-1", "-0", "12", "0x2", "1e0", "")
			l[i] = strings.Join(words, " ")
		}
	}
	return strings.Join(l, "")
}

func TestOpenOfSpoiltTexts(t *testing.T) {
	all, rnd, count := games(t), rand.New(rand.NewSource(34)), seen{}
	var texts, less int
	for _, name := range inOrder(all) {
		r := all[name]
		for range 40 {
			time := oneOf(rnd, 5, 9, 20, 1000000)
			p := player{rnd, &story{r: r, time: time}}
			h := newHouse(t, r, time)
			p.goOn(t, h, 20, count)
			for range 15 {
				text := spoilt(rnd, h.Save())
				g, n, e := house.Open(r, time, text)
				s := opened(r, time, text)
				if e != api.OK || n != len(s.moves) || g.Save() != s.save() {
					t.Fatalf("%s: %d, %v of %q, not %d", name, n, e, text, len(s.moves))
				}
				player{rnd, s}.goOn(t, g, 4, count)
				texts++
				if n < strings.Count(text, "\n") {
					less++
				}
			}
		}
	}
	if less < texts/3 || less > texts*9/10 {
		t.Error("of", texts, "texts", less, "were not taken whole")
	}
}
