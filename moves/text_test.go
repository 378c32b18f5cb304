package moves_test

import (
	"strings"
	"testing"

	"parlour/api"
	"parlour/moves"
)

func TestTextAndRead(t *testing.T) {
	r := game(t, "start k...../..p.../p.K..P w KP/P", "piece K 3: leap 0 1, leap 1 1", "piece P 1: step 0 1", "drops", "plies 9")
	for _, x := range []struct {
		turn int
		m    api.Move
		s    string
	}{
		{0, api.Move{From: 2, To: 1, Piece: 'K'}, "Kc1-b1"},
		{0, api.Move{From: 2, To: 8, Piece: 'K'}, "Kc1xc2"},
		{0, api.Move{From: 5, To: 11, Piece: 'P'}, "Pf1-f2"},
		{0, api.Move{From: -1, To: 1, Piece: 'P'}, "P@b1"},
		{0, api.Move{From: -1, To: 17, Piece: 'K'}, "K@f3"},
		// The letter is a capital one, whichever player's it is.
		{1, api.Move{From: 12, To: 6, Piece: 'K'}, "Ka3-a2"},
		{1, api.Move{From: 8, To: 2, Piece: 'P'}, "Pc2xc1"},
		{1, api.Move{From: -1, To: 6, Piece: 'P'}, "P@a2"},
	} {
		p := r.Start
		p.Turn = x.turn
		if s, e := moves.Text(r, p, x.m); s != x.s || e != api.OK {
			t.Error(x, s, e)
		}
		if m, e := moves.Read(r, p, x.s); m != x.m || e != api.OK {
			t.Error(x, m, e)
		}
	}
}

func TestTextsOfTheEdges(t *testing.T) {
	row := "......../"
	r := game(t, "start .......R/"+strings.Repeat(row, 6)+"R....... w -/-", "piece R 3: slide 0 1", "plies 9")
	for _, x := range []struct {
		m api.Move
		s string
	}{
		{api.Move{From: 0, To: 7, Piece: 'R'}, "Ra1-h1"},
		{api.Move{From: 0, To: 56, Piece: 'R'}, "Ra1-a8"},
		{api.Move{From: 63, To: 7, Piece: 'R'}, "Rh8-h1"},
		{api.Move{From: 63, To: 56, Piece: 'R'}, "Rh8-a8"},
	} {
		if s, e := moves.Text(r, r.Start, x.m); s != x.s || e != api.OK {
			t.Error(x, s, e)
		}
		if m, e := moves.Read(r, r.Start, x.s); m != x.m || e != api.OK {
			t.Error(x, m, e)
		}
	}
}

func TestTextsThatAreNone(t *testing.T) {
	r := game(t, "start k...../..p.../p.K..P w KP/P", "piece K 3: leap 0 1, leap 1 1", "piece P 1: step 0 1", "drops", "plies 9")
	for _, s := range []string{
		"", "K", "Kc1", "Kc1-", "Kc1-b", "Kc1-b11", "Kc1-b1 ", " Kc1-b1", "Kc1-b1\n", "Kc1-b1Kc1-b1",
		"kc1-b1", "KC1-b1", "Kc1-B1", "c1-b1", "Pc1-b1", "Kc1b1", "Kc1@b1", "Kc1-b01", "Kc01-b1",
		"Kc1xb1", "Kc1-c2", "Kc1-c1", "Kc1-d0", "Kc1-g1", "Kc1–b1", "Kc1-b1\x00",
		"Ka3-a2", "Pc2xc1", "Pf1-e2", "Pf1xf2",
		"@b1", "p@b1", "P@", "P@b", "P-b1", "P@b11", "P@a1", "P@c1", "P@b4", "Q@b1", "P@@b1", "Pb1",
		strings.Repeat("Kc1-b1", 100000),
	} {
		if m, e := moves.Read(r, r.Start, s); m != (api.Move{}) || e != api.ErrMove {
			t.Errorf("%.40q: %v %v", s, m, e)
		}
	}
}
