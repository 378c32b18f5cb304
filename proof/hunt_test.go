package proof

import (
	"testing"

	"parlour/api"
)

// forks is a game with positions to which many ways lead, won in five moves of
// which three are the winner's.
func forks() api.Rules {
	return api.Rules{
		Start:  api.Position{W: 4, H: 4, Cells: "................", Hands: [2]string{"XXXXX", "XXXXX"}},
		Pieces: []api.Piece{{Letter: 'X', Worth: 1}},
		Drops:  true,
		Line:   3,
		Plies:  16,
	}
}

// What is known is forgotten when there is no more room for it: that takes
// time, and makes no other difference.
func TestLittleRoom(t *testing.T) {
	r := forks()
	c := claim{r, r.Start.Turn}
	for _, room := range []int{1, 2, 3, 10, 100, 1000, maxKnown} {
		for most := range 5 {
			h := newHunt(c)
			h.room = room
			if n := h.need(r.Start, most); most < 3 && n <= most || most >= 3 && n != 3 {
				t.Error(room, most, n)
			}
			if most >= 3 && !c.isShown(h.cert(r.Start, most), r.Start, 5) {
				t.Error(room, most)
			}
			if len(h.known) > room {
				t.Error(room, len(h.known))
			}
		}
	}
}

// A question may be asked with any number ahead of it.
func TestQuestionsInAnyOrder(t *testing.T) {
	r := forks()
	for _, order := range [][]int{{0, 1, 2, 3, 4}, {4, 3, 2, 1, 0}, {2, 4, 1, 3, 0}, {3, 0, 3, 2, 2, 5}} {
		h := newHunt(claim{r, 0})
		for _, most := range order {
			if n := h.need(r.Start, most); most < 3 && n <= most || most >= 3 && n != 3 {
				t.Error(order, most, n)
			}
		}
	}
}

func TestOwnMoves(t *testing.T) {
	for depth, want := range []int{0, 1, 1, 2, 2, 3, 3, 4, 4, 5} {
		if n := ownMoves(depth); n != want {
			t.Error(depth, n)
		}
	}
}
