package board_test

import (
	"math"
	"math/rand"
	"strings"
	"testing"

	"parlour/api"
	"parlour/board"
)

// AB.c.. has the rows AB (bottom), .c and .. (top).
func TestTurned(t *testing.T) {
	p := api.Position{W: 2, H: 3, Cells: "AB.c..", Turn: 1, Hands: [2]string{"AB", "C"}}
	for k, x := range []struct {
		w, h  int
		cells string
	}{
		{2, 3, "AB.c.."},
		{2, 3, "BAc..."},
		{2, 3, "...cAB"},
		{2, 3, "..c.BA"},
		{3, 2, "A..Bc."},
		{3, 2, "..A.cB"},
		{3, 2, "Bc.A.."},
		{3, 2, ".cB..A"},
	} {
		want := api.Position{W: x.w, H: x.h, Cells: x.cells, Turn: 1, Hands: [2]string{"AB", "C"}}
		if q, e := board.Turned(p, k); q != want || e != api.OK {
			t.Errorf("%d: %+v %v", k, q, e)
		}
	}
	for _, k := range []int{math.MinInt, -8, -1, 8, 9, 12, math.MaxInt} {
		if q, e := board.Turned(p, k); q != (api.Position{}) || e != api.ErrArg {
			t.Errorf("%d: %+v %v", k, q, e)
		}
	}
}

func cell(p api.Position, x, y int) byte { return p.Cells[y*p.W+x] }

// Each step of a turn, cell by cell, as the promise tells it.
func TestTurnedStepByStep(t *testing.T) {
	r := rand.New(rand.NewSource(1))
	for range 300 {
		p := randomPosition(r)
		for k := range 8 {
			want := p
			for _, bit := range []int{4, 1, 2} {
				if k&bit == 0 {
					continue
				}
				step, _ := board.Turned(want, bit)
				for y := range want.H {
					for x := range want.W {
						a, b := x, y
						switch bit {
						case 4:
							a, b = y, x
						case 1:
							a = want.W - 1 - x
						case 2:
							b = want.H - 1 - y
						}
						if cell(step, a, b) != cell(want, x, y) {
							t.Fatalf("%+v turned by %d: %+v", want, bit, step)
						}
					}
				}
				want = step
			}
			if q, e := board.Turned(p, k); q != want || e != api.OK {
				t.Fatalf("%+v turned by %d: %+v %v, not %+v", p, k, q, e, want)
			}
		}
	}
}

func TestLeast(t *testing.T) {
	p := api.Position{W: 2, H: 3, Cells: "AB.c..", Turn: 1, Hands: [2]string{"AB", "C"}}
	even := api.Position{W: 2, H: 2, Cells: "aaaa"}
	for _, x := range []struct {
		p     api.Position
		ks    []int
		cells string
		k     int
	}{
		{p, []int{0}, "AB.c..", 0},
		{p, []int{0, 1, 2, 3, 4, 5, 6, 7}, "...cAB", 2},
		{p, []int{7, 6, 5, 4, 3, 2, 1, 0}, "...cAB", 2},
		// Fewer columns are less, whatever the cells are.
		{p, []int{5, 1}, "BAc...", 1},
		{p, []int{1, 5}, "BAc...", 1},
		{p, []int{4, 6, 7}, ".cB..A", 7},
		{p, []int{6, 6, 4, 6}, "A..Bc.", 4},
		// Of several that are the same the one that stands first is told.
		{even, []int{6, 2, 0}, "aaaa", 6},
		{even, []int{3, 0, 3}, "aaaa", 3},
	} {
		turned, _ := board.Turned(x.p, x.k)
		if q, k, e := board.Least(x.p, x.ks); q != turned || q.Cells != x.cells || k != x.k || e != api.OK {
			t.Errorf("%+v of %v: %+v with %d, %v", x.p, x.ks, q, k, e)
		}
	}
	for _, ks := range [][]int{nil, {}, {8}, {-1}, {0, 1, 8}, {9, 0}, {0, math.MinInt}, {math.MaxInt, 0}} {
		if q, k, e := board.Least(p, ks); q != (api.Position{}) || k != 0 || e != api.ErrArg {
			t.Errorf("%v: %+v %d %v", ks, q, k, e)
		}
	}
}

func less(p, q api.Position) bool {
	if p.W != q.W {
		return p.W < q.W
	}
	if p.H != q.H {
		return p.H < q.H
	}
	return p.Cells < q.Cells
}

func TestLeastOfMany(t *testing.T) {
	r := rand.New(rand.NewSource(2))
	for range 2000 {
		p := randomPosition(r)
		ks := make([]int, 1+r.Intn(10))
		for i := range ks {
			ks[i] = r.Intn(8)
		}
		want, with := api.Position{}, -1
		for _, k := range ks {
			if q, _ := board.Turned(p, k); with < 0 || less(q, want) {
				want, with = q, k
			}
		}
		if q, k, e := board.Least(p, ks); q != want || k != with || e != api.OK {
			t.Fatalf("%+v of %v: %+v with %d, %v, not %+v with %d", p, ks, q, k, e, want, with)
		}
	}
}

func TestSwapped(t *testing.T) {
	for _, x := range []struct{ p, q api.Position }{
		{
			api.Position{W: 2, H: 3, Cells: "AB.c..", Hands: [2]string{"AB", "C"}},
			api.Position{W: 2, H: 3, Cells: "...Cab", Turn: 1, Hands: [2]string{"C", "AB"}},
		},
		{
			api.Position{W: 4, H: 1, Cells: "AZaz", Turn: 1, Hands: [2]string{"", "Q"}},
			api.Position{W: 4, H: 1, Cells: "azAZ", Hands: [2]string{"Q", ""}},
		},
		{
			api.Position{W: 1, H: 1, Cells: "."},
			api.Position{W: 1, H: 1, Cells: ".", Turn: 1},
		},
	} {
		if q, e := board.Swapped(x.p); q != x.q || e != api.OK {
			t.Errorf("%+v: %+v %v", x.p, q, e)
		}
		if p, e := board.Swapped(x.q); p != x.p || e != api.OK {
			t.Errorf("%+v: %+v %v", x.q, p, e)
		}
	}
}

func TestSwappedLetters(t *testing.T) {
	for c := byte('A'); c <= 'Z'; c++ {
		capital := string([]byte{c})
		p := api.Position{W: 2, H: 1, Cells: capital + "."}
		if q, e := board.Swapped(p); q.Cells != strings.ToLower(p.Cells) || e != api.OK {
			t.Errorf("%+v: %+v %v", p, q, e)
		}
	}
}
