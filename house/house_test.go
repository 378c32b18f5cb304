package house_test

import (
	"math"
	"strconv"
	"strings"
	"testing"

	"parlour/api"
	"parlour/house"
)

// kings take each other on three cells in a row.
func kings(t *testing.T) api.Rules {
	t.Helper()
	return games(t)["kings"]
}

// walk is a game of n plies in which nobody can win.
func walk(t *testing.T, n int) api.Rules {
	t.Helper()
	r := games(t)["walk"]
	r.Plies = n
	return r
}

// walking is the move of that ply: both kings go up or down, and back.
func walking(ply int) string { return []string{"Ka1-a2", "Kc3-c2", "Ka2-a1", "Kc2-c3"}[ply%4] }

func walkOn(t *testing.T, h *house.House, from, to int) {
	t.Helper()
	for i := from; i < to; i++ {
		if y := h.Take(api.Msg{Seat: i % 2, Ply: i, Move: walking(i)}); y.Kind != api.Done {
			t.Fatal(i, y)
		}
	}
}

// asked is a message, and the reply that it ought to have.
type asked struct {
	m api.Msg
	y api.Reply
}

func ask(t *testing.T, h *house.House, l ...asked) {
	t.Helper()
	for _, x := range l {
		if y := h.Take(x.m); y != x.y {
			t.Error(x.m, y, "not", x.y)
		}
	}
}

func saved(t *testing.T, h *house.House, want string) {
	t.Helper()
	if s := h.Save(); s != want {
		t.Errorf("%q, not %q", s, want)
	}
}

func TestAGame(t *testing.T) {
	h := newHouse(t, kings(t), 10)
	saved(t, h, "")
	first, second, last := "K.k w -/-", ".Kk b -/-", ".k. w -/-"
	ask(t, h,
		asked{api.Msg{Move: "Ka1-c1"}, api.Reply{Kind: api.Bad, Pos: first}},
		asked{api.Msg{Seat: 1, Move: "Ka1-b1"}, api.Reply{Kind: api.Wait, Pos: first}},
		asked{api.Msg{Ply: 1, Move: "Ka1-b1"}, api.Reply{Kind: api.Stale, Pos: first}},
		asked{api.Msg{Move: "Ka1-b1", At: 4}, api.Reply{Kind: api.Done, Ply: 1, Pos: second}},
		asked{api.Msg{Move: "Ka1-b1", At: 4}, api.Reply{Kind: api.Stale, Ply: 1, Pos: second}},
		asked{api.Msg{Ply: 1, Move: "Kb1-a1"}, api.Reply{Kind: api.Wait, Ply: 1, Pos: second}},
		asked{api.Msg{Seat: 1, Ply: 1, Move: "Kb1-a1"}, api.Reply{Kind: api.Bad, Ply: 1, Pos: second}},
		asked{api.Msg{Seat: 1, Ply: 1, Move: "kc1xb1"}, api.Reply{Kind: api.Bad, Ply: 1, Pos: second}},
		asked{api.Msg{Seat: 1, Ply: 1, Move: "Kc1xb1", At: 14}, api.Reply{Kind: api.Done, Ply: 2, Outcome: api.Second, Pos: last}},
		asked{api.Msg{Ply: 2, Move: "Ka1-b1", At: 15}, api.Reply{Kind: api.Over, Ply: 2, Outcome: api.Second, Pos: last}},
		asked{api.Msg{}, api.Reply{Kind: api.Over, Ply: 2, Outcome: api.Second, Pos: last}},
	)
	saved(t, h, "0 4 Ka1-b1\n1 14 Kc1xb1\n")
}

func TestNewOfWrongRules(t *testing.T) {
	for name, spoil := range map[string]func(r *api.Rules){
		"none":       func(r *api.Rules) { *r = api.Rules{} },
		"no plies":   func(r *api.Rules) { r.Plies = 0 },
		"long":       func(r *api.Rules) { r.Plies = 1001 },
		"no pieces":  func(r *api.Rules) { r.Pieces = nil },
		"no start":   func(r *api.Rules) { r.Start = api.Position{} },
		"other turn": func(r *api.Rules) { r.Start.Turn = 2 },
		"lose none":  func(r *api.Rules) { r.Lose = 'Q' },
	} {
		r := kings(t)
		spoil(&r)
		for _, time := range []int{0, 1, 1000000, 1000001} {
			wrong(t, name, r, time)
		}
	}
}

func TestTimes(t *testing.T) {
	for _, time := range []int{math.MinInt, -1, 0, 1000001, math.MaxInt} {
		wrong(t, strconv.Itoa(time), kings(t), time)
	}
	for _, time := range []int{1, 2, 999999, 1000000} {
		h := newHouse(t, kings(t), time)
		if y := h.Take(api.Msg{Move: "Ka1-b1", At: time}); y.Kind != api.Done {
			t.Error(time, y)
		}
		g, n, e := house.Open(kings(t), time, h.Save())
		if n != 1 || e != api.OK {
			t.Error(time, n, e)
		}
		if y := g.Take(api.Msg{At: 2*time + 1}); y.Kind != api.Over || y.Outcome != api.First {
			t.Error(time, y)
		}
	}
}

func wrong(t *testing.T, name string, r api.Rules, time int) {
	t.Helper()
	if h, e := house.New(r, time); h != nil || e != api.ErrArg {
		t.Error(name, h, e)
	}
	for _, s := range []string{"", "0 3 Ka1-b1\n", "?"} {
		if h, n, e := house.Open(r, time, s); h != nil || n != 0 || e != api.ErrArg {
			t.Error(name, h, n, e)
		}
	}
}

// A clock of nothing has not run out yet; one that is below that has, whatever
// the message was.
func TestEdgeOfAClock(t *testing.T) {
	for _, m := range []api.Msg{{Move: "Ka1-b1"}, {Seat: 1, Move: "Ka1-b1"}, {Ply: 7}, {Move: "?"}} {
		for _, at := range []int{10, 11, 12, math.MaxInt} {
			h := newHouse(t, kings(t), 10)
			m.At = at
			y := h.Take(m)
			out := y == api.Reply{Kind: api.Over, Outcome: api.Second, Pos: "K.k w -/-"}
			if out != (at > 10) || !out && y.Kind == api.Over {
				t.Error(m, y)
			}
			if z := h.Take(api.Msg{Move: "Ka1-b1"}); out && z != y {
				t.Error(m, z)
			}
			if out {
				saved(t, h, "")
			}
		}
	}
}

// Time goes from the clock of who is to move, whoever writes, and it does not
// come back.
func TestWhoseTimeGoes(t *testing.T) {
	h := newHouse(t, walk(t, 40), 10)
	for _, x := range []struct{ seat, ply, at, kind int }{
		{1, 0, 3, api.Wait}, {0, 5, 6, api.Stale}, {0, 0, 2, api.Done}, // 4 are left of the first clock,
		{0, 1, 8, api.Wait}, {1, 0, math.MinInt, api.Stale}, {1, 1, 16, api.Done}, // none of the second one.
		{0, 2, 16, api.Done}, {1, 3, 16, api.Done}, {1, 3, 15, api.Stale}, {0, 4, 20, api.Done}, {1, 5, 20, api.Done},
		{0, 6, 0, api.Done}, {0, 7, 20, api.Wait}, {1, 7, 21, api.Over},
	} {
		if y := h.Take(api.Msg{Seat: x.seat, Ply: x.ply, Move: walking(x.ply), At: x.at}); y.Kind != x.kind {
			t.Error(x, y)
		}
	}
	if y := h.Take(api.Msg{}); y.Outcome != api.First || y.Ply != 7 {
		t.Error(y)
	}
	saved(t, h, "0 6 Ka1-a2\n1 16 Kc3-c2\n2 16 Ka2-a1\n3 16 Kc2-c3\n4 20 Ka1-a2\n5 20 Kc3-c2\n6 20 Ka2-a1\n")
}

func TestSeatsThatAreNone(t *testing.T) {
	h := newHouse(t, kings(t), 10)
	for _, seat := range []int{math.MinInt, -1, 1, 2, math.MaxInt} {
		ask(t, h, asked{api.Msg{Seat: seat, Move: "Ka1-b1"}, api.Reply{Kind: api.Wait, Pos: "K.k w -/-"}})
	}
	for _, ply := range []int{math.MinInt, -1, 1, 2, math.MaxInt} {
		ask(t, h, asked{api.Msg{Ply: ply, Move: "Ka1-b1"}, api.Reply{Kind: api.Stale, Pos: "K.k w -/-"}})
	}
	ask(t, h, asked{api.Msg{Move: "Ka1-b1"}, api.Reply{Kind: api.Done, Ply: 1, Pos: ".Kk b -/-"}})
}

// The second player begins, if it is his turn in Start: seats are players.
func TestTheSecondPlayerBegins(t *testing.T) {
	r := kings(t)
	r.Start.Turn = 1
	h := newHouse(t, r, 10)
	ask(t, h,
		asked{api.Msg{Move: "Kc1-b1"}, api.Reply{Kind: api.Wait, Pos: "K.k b -/-"}},
		asked{api.Msg{Seat: 1, Move: "Kc1-b1", At: 1}, api.Reply{Kind: api.Done, Ply: 1, Pos: "Kk. w -/-"}},
	)
	g, n, _ := house.Open(r, 10, h.Save())
	if n != 1 {
		t.Error(n)
	}
	ask(t, g, asked{api.Msg{Ply: 1, At: 12}, api.Reply{Kind: api.Over, Ply: 1, Outcome: api.Second, Pos: "Kk. w -/-"}})
	h = newHouse(t, r, 10)
	ask(t, h, asked{api.Msg{At: 11}, api.Reply{Kind: api.Over, Outcome: api.First, Pos: "K.k b -/-"}})
}

func TestOverFromStartOn(t *testing.T) {
	for name, want := range map[string]int{"won": api.First, "lost": api.Second, "still": api.Draw} {
		r := games(t)[name]
		h := newHouse(t, r, 5)
		for _, m := range []api.Msg{{}, {Ply: 3}, {At: 99}, {Seat: 1, Move: "Kc1-b1", At: math.MaxInt}} {
			if y := h.Take(m); y.Kind != api.Over || y.Outcome != want || y.Ply != 0 || y.Pos == "" {
				t.Error(name, m, y)
			}
		}
		if g, n, e := house.Open(r, 5, "0 0 Ka1-b1\n"); g == nil || n != 0 || e != api.OK || g.Save() != "" {
			t.Error(name, n, e)
		}
	}
}

// So many moves make a Draw, unless the position has a winner.
func TestPlies(t *testing.T) {
	for _, n := range []int{1, 2, 3, 12, 999, 1000} {
		h := newHouse(t, walk(t, n), 1)
		walkOn(t, h, 0, n-1)
		if y := h.Take(api.Msg{}); y.Kind == api.Over || y.Outcome != api.Open {
			t.Error(n, y)
		}
		y := h.Take(api.Msg{Seat: (n - 1) % 2, Ply: n - 1, Move: walking(n - 1)})
		if y.Kind != api.Done || y.Ply != n || y.Outcome != api.Draw {
			t.Error(n, y)
		}
		if y := h.Take(api.Msg{Seat: n % 2, Ply: n, Move: walking(n), At: 99}); y.Kind != api.Over || y.Ply != n || y.Outcome != api.Draw {
			t.Error(n, y)
		}
		g, m, e := house.Open(walk(t, n), 1, h.Save()+strconv.Itoa(n)+" 0 "+walking(n)+"\n")
		if m != n || e != api.OK || g.Save() != h.Save() || g.Take(api.Msg{}).Outcome != api.Draw {
			t.Error(n, m, e)
		}
	}
	r := kings(t)
	r.Plies = 2
	h := newHouse(t, r, 1)
	h.Take(api.Msg{Move: "Ka1-b1"})
	ask(t, h, asked{api.Msg{Seat: 1, Ply: 1, Move: "Kc1xb1"}, api.Reply{Kind: api.Done, Ply: 2, Outcome: api.Second, Pos: ".k. w -/-"}})
}

func TestOpenOfLines(t *testing.T) {
	one, two, three := "0 3 Ka1-a2\n", "1 5 Kc3-c2\n", "2 5 Ka2-a1\n"
	for s, want := range map[string]int{
		"":                                0,
		"\n":                              0,
		one + two + three:                 3,
		one + two + three + "3 15 Kc2-c3": 3,
		// The second clock has 8 left, the first one 7.
		one + two + three + "3 13 Kc2-c3\n":                  4,
		one + two + three + "3 14 Kc2-c3\n":                  3,
		one + two + three + "3 5 Kc2-c3\n" + "4 12 Ka1-a2\n": 5,
		one + two + three + "3 5 Kc2-c3\n" + "4 13 Ka1-a2\n": 4,
		// All lines up to the first one that is none, never one behind it.
		"\n" + one:                        0,
		one + "\n" + two:                  1,
		one + "?\n" + two:                 1,
		one + one + two:                   1,
		one + three + two:                 1,
		two + one:                         0,
		one + two + two + three:           2,
		"0 3 Ka1-a2\r\n" + two:            0,
		one + "1 5 Kc3-c2 \n":             1,
		one + "1 5  Kc3-c2\n":             1,
		one + "1  5 Kc3-c2\n":             1,
		one + " 1 5 Kc3-c2\n":             1,
		one + "1\t5\tKc3-c2\n":            1,
		one + "1 5\n":                     1,
		one + "1\n":                       1,
		one + "1 5 \n":                    1,
		one + "1 5 Kc3-c9\n":              1,
		one + "1 5 Kc3xc2\n":              1,
		one + "1 5 kc3-c2\n":              1,
		one + "1 5 Kc3-c2\x00\n":          1,
		one + "1 Kc3-c2 5\n":              1,
		one + "1 2 Kc3-c2\n":              1,
		one + "1 3 Kc3-c2\n":              2,
		one + "2 5 Kc3-c2\n":              1,
		one + "0 5 Kc3-c2\n":              1,
		one + "-1 5 Kc3-c2\n":             1,
		one + "01 5 Kc3-c2\n":             1,
		one + "+1 5 Kc3-c2\n":             1,
		one + "1 05 Kc3-c2\n":             1,
		one + "1 +5 Kc3-c2\n":             1,
		one + "1 0x5 Kc3-c2\n":            1,
		one + "1 5_0 Kc3-c2\n":            1,
		one + "1 5.0 Kc3-c2\n":            1,
		"0 0 Ka1-a2\n":                    1,
		"0 -0 Ka1-a2\n":                   0,
		"0 -1 Ka1-a2\n":                   0,
		"-0 0 Ka1-a2\n":                   0,
		"00 0 Ka1-a2\n":                   0,
		"0 00 Ka1-a2\n":                   0,
		"0 10 Ka1-a2\n":                   1,
		"0 11 Ka1-a2\n":                   0,
		"1 0 Ka1-a2\n":                    0,
		"0 9223372036854775807 Ka1-a2\n":  0,
		"0 9223372036854775808 Ka1-a2\n":  0,
		"0 18446744073709551616 Ka1-a2\n": 0,
		"0 18446744073709551619 Ka1-a2\n": 0,
		"18446744073709551616 0 Ka1-a2\n": 0,
		"0 " + strings.Repeat("9", 100000) + " Ka1-a2\n":  0,
		"0 " + strings.Repeat("0", 100000) + "3 Ka1-a2\n": 0,
		"٠ 3 Ka1-a2\n": 0,
	} {
		h, n, e := house.Open(walk(t, 40), 10, s)
		if n != want || e != api.OK {
			t.Errorf("%.80q: %d %v, not %d", s, n, e, want)
			continue
		}
		lines := strings.SplitAfter(s, "\n")
		saved(t, h, strings.Join(lines[:want], ""))
	}
}

// A line that is not taken has not let time go by, nor ended the game.
func TestALineThatIsNotTakenDoesNothing(t *testing.T) {
	for _, line := range []string{
		"1 14 Kc3-c2\n", "1 9 Kc3-a3\n", "1 09 Kc3-c2\n", "2 9 Kc3-c2\n", "0 99 Ka1-a2\n", "1 9223372036854775807 Kc3-c2\n", "1 9 Kc3-c2",
	} {
		h, n, _ := house.Open(walk(t, 40), 10, "0 3 Ka1-a2\n"+line)
		if n != 1 {
			t.Error(line, n)
		}
		if y := h.Take(api.Msg{Seat: 1, Ply: 1, Move: "Kc3-c2"}); y.Kind != api.Done {
			t.Error(line, y)
		}
		saved(t, h, "0 3 Ka1-a2\n1 3 Kc3-c2\n")
	}
}

// What went by behind the last move is not saved, nor that a clock ran out.
func TestTimeIsSavedWithMovesOnly(t *testing.T) {
	h := newHouse(t, walk(t, 40), 10)
	walkOn(t, h, 0, 1)
	if y := h.Take(api.Msg{At: 9}); y.Kind != api.Stale {
		t.Error(y)
	}
	saved(t, h, "0 0 Ka1-a2\n")
	if y := h.Take(api.Msg{At: 11}); y.Kind != api.Over || y.Outcome != api.First {
		t.Error(y)
	}
	saved(t, h, "0 0 Ka1-a2\n")
	g, n, e := house.Open(walk(t, 40), 10, h.Save())
	if n != 1 || e != api.OK {
		t.Error(n, e)
	}
	ask(t, g, asked{api.Msg{Seat: 1, Ply: 1, Move: "Kc3-c2", At: 10}, api.Reply{Kind: api.Done, Ply: 2, Pos: ".../K.k/... w -/-"}})
}

// Rules and time need not be those with which it was saved.
func TestOpenByOtherRules(t *testing.T) {
	h := newHouse(t, walk(t, 40), 100)
	for i := range 10 {
		h.Take(api.Msg{Seat: i % 2, Ply: i, Move: walking(i), At: 10 * i})
	}
	for _, x := range []struct{ plies, time, lines, outcome int }{
		{40, 100, 10, api.Open}, {9, 100, 9, api.Draw}, {10, 100, 10, api.Draw}, {40, 49, 9, api.Open}, {40, 50, 10, api.Open}, {40, 9, 1, api.Open},
	} {
		g, n, e := house.Open(walk(t, x.plies), x.time, h.Save())
		if n != x.lines || e != api.OK || g.Take(api.Msg{}).Outcome != x.outcome {
			t.Error(x, n, e)
		}
	}
	if g, n, e := house.Open(kings(t), 100, h.Save()); g == nil || n != 0 || e != api.OK {
		t.Error(n, e)
	}
}

// A house that was not made has no game.
func TestNoHouse(t *testing.T) {
	var none house.House
	for _, h := range []*house.House{nil, {}, &none} {
		for _, m := range []api.Msg{{}, {Move: "Ka1-b1", At: 1}, {Seat: 1, Ply: -1, At: math.MaxInt}} {
			if y := h.Take(m); y != (api.Reply{}) {
				t.Error(y)
			}
		}
		saved(t, h, "")
	}
}
