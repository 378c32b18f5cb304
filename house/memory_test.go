package house_test

import (
	"reflect"
	"slices"
	"strings"
	"sync"
	"testing"
	"unsafe"

	"parlour/api"
	"parlour/house"
)

// roomy are rules with room behind their lists, and these lists with the room.
func roomy(t *testing.T) (api.Rules, []api.Piece, []api.Way) {
	t.Helper()
	r := walk(t, 40)
	ways := append(r.Pieces[0].Ways, api.Way{Kind: 9, X: 8}, api.Way{Take: 7})
	pieces := append(r.Pieces, api.Piece{Letter: 'Q', Worth: 5}, api.Piece{Letter: '?'})
	pieces[0].Ways = ways[:1]
	r.Pieces = pieces[:1]
	return r, pieces, ways
}

func deepCopy(pieces []api.Piece) []api.Piece {
	l := slices.Clone(pieces)
	for i := range l {
		l[i].Ways = slices.Clone(l[i].Ways)
	}
	return l
}

func TestWhatIsHandedInStays(t *testing.T) {
	r, pieces, ways := roomy(t)
	before, after, first := deepCopy(pieces), slices.Clone(ways), r
	h := newHouse(t, r, 10)
	walkOn(t, h, 0, 5)
	if _, n, e := house.Open(r, 10, h.Save()+"5 3"); n != 5 || e != api.OK {
		t.Error(n, e)
	}
	if !reflect.DeepEqual(pieces, before) || !slices.Equal(ways, after) || !reflect.DeepEqual(r, first) {
		t.Error(pieces, ways, r)
	}
}

// What is done with the rules later is nothing to a house that goes by them.
func TestRulesAreNotKept(t *testing.T) {
	for _, open := range []bool{false, true} {
		r, pieces, ways := roomy(t)
		h := newHouse(t, r, 10)
		if open {
			h, _, _ = house.Open(r, 10, "0 0 Ka1-a2\n")
		} else {
			walkOn(t, h, 0, 1)
		}
		clear(ways)
		clear(pieces)
		walkOn(t, h, 1, 9)
	}
}

// No text that is answered shares memory with another one.
func TestTextsAreNewMemory(t *testing.T) {
	r := walk(t, 40)
	text := strings.Clone("0 0 Ka1-a2\n1 0 Kc3-c2\n")
	h, _, _ := house.Open(r, 10, text)
	move := strings.Clone("Ka2-a1")
	y, z := h.Take(api.Msg{Ply: 2, Move: move}), h.Take(api.Msg{})
	one, two := h.Save(), h.Save()
	g, _, _ := house.Open(r, 10, one)
	all := []string{text, move, y.Pos, z.Pos, one, two, g.Save(), r.Start.Cells}
	for i, a := range all {
		for _, b := range all[:i] {
			if shares(a, b) {
				t.Errorf("%q, %q", a, b)
			}
		}
	}
}

func shares(a, b string) bool {
	from, to := uintptr(unsafe.Pointer(unsafe.StringData(a))), uintptr(unsafe.Pointer(unsafe.StringData(b)))
	return from < to+uintptr(len(b)) && to < from+uintptr(len(a))
}

// Houses by the same rules, and opened by the same text, have nothing to do with
// each other; nor has a copy of one.
func TestHousesStandAlone(t *testing.T) {
	r := walk(t, 40)
	h := newHouse(t, r, 10)
	walkOn(t, h, 0, 3)
	text := h.Save()
	one, _, _ := house.Open(r, 10, text)
	two, _, _ := house.Open(r, 10, text)
	three := *h
	if y := one.Take(api.Msg{Seat: 1, Ply: 3, Move: "Kc2-b2", At: 5}); y.Kind != api.Done {
		t.Error(y)
	}
	if y := three.Take(api.Msg{At: 99}); y.Kind != api.Over {
		t.Error(y)
	}
	walkOn(t, two, 3, 9)
	walkOn(t, h, 3, 7)
	saved(t, one, text+"3 5 Kc2-b2\n")
	saved(t, &three, text)
	saved(t, h, text+"3 0 Kc2-c3\n4 0 Ka1-a2\n5 0 Kc3-c2\n6 0 Ka2-a1\n")
	saved(t, two, h.Save()+"7 0 Kc2-c3\n8 0 Ka1-a2\n")
}

func TestHousesAtTheSameTime(t *testing.T) {
	r := walk(t, 200)
	var g sync.WaitGroup
	for range 8 {
		g.Go(func() {
			h, e := house.New(r, 10)
			if e != api.OK {
				t.Error(e)
				return
			}
			for i := range 100 {
				if y := h.Take(api.Msg{Seat: i % 2, Ply: i, Move: walking(i)}); y.Kind != api.Done {
					t.Error(i, y)
				}
				if _, n, _ := house.Open(r, 10, h.Save()); n != i+1 {
					t.Error(i, n)
				}
			}
		})
	}
	g.Wait()
}
