package board_test

import (
	"math"
	"slices"
	"strings"
	"testing"
	"unsafe"

	"parlour/api"
	"parlour/board"
)

// fine has a value in each field, so that a test can spoil them one by one.
func fine() api.Position {
	return api.Position{W: 3, H: 2, Cells: "A.zZ.a", Turn: 1, Hands: [2]string{"AAZ", "BC"}}
}

func spoiled(spoil func(p *api.Position)) api.Position {
	p := fine()
	spoil(&p)
	return p
}

func wrongPositions() map[string]api.Position {
	return map[string]api.Position{
		"zero":               {},
		"no columns":         {W: 0, H: 2},
		"no rows":            {W: 3, H: 0},
		"both below 0":       {W: -3, H: -2, Cells: "A.zZ.a"},
		"W too large":        {W: 9, H: 1, Cells: "........."},
		"H too large":        {W: 1, H: 9, Cells: "........."},
		"product overflows":  {W: math.MaxInt/2 + 1, H: 4, Cells: ""},
		"least W":            {W: math.MinInt, H: 2, Cells: ""},
		"too few cells":      spoiled(func(p *api.Position) { p.Cells = "A.zZ." }),
		"too many cells":     spoiled(func(p *api.Position) { p.Cells = "A.zZ.a." }),
		"byte 0":             spoiled(func(p *api.Position) { p.Cells = "A.zZ.\x00" }),
		"digit":              spoiled(func(p *api.Position) { p.Cells = "A.zZ.1" }),
		"ahead of .":         spoiled(func(p *api.Position) { p.Cells = "A.zZ.-" }),
		"behind .":           spoiled(func(p *api.Position) { p.Cells = "A.zZ./" }),
		"ahead of A":         spoiled(func(p *api.Position) { p.Cells = "A.zZ.@" }),
		"behind Z":           spoiled(func(p *api.Position) { p.Cells = "A.zZ.[" }),
		"ahead of a":         spoiled(func(p *api.Position) { p.Cells = "A.zZ.`" }),
		"behind z":           spoiled(func(p *api.Position) { p.Cells = "A.zZ.{" }),
		"beyond ASCII":       spoiled(func(p *api.Position) { p.Cells = "A.zZ.\xc1" }),
		"a rune of 2 bytes":  spoiled(func(p *api.Position) { p.Cells = "A.zZé" }),
		"Turn -1":            spoiled(func(p *api.Position) { p.Turn = -1 }),
		"Turn 2":             spoiled(func(p *api.Position) { p.Turn = 2 }),
		"hand of nine":       spoiled(func(p *api.Position) { p.Hands[0] = "AAAAAAAAA" }),
		"other hand of nine": spoiled(func(p *api.Position) { p.Hands[1] = "AAAAAAAAA" }),
		"small in hand":      spoiled(func(p *api.Position) { p.Hands[0] = "Ab" }),
		"dash in hand":       spoiled(func(p *api.Position) { p.Hands[1] = "-" }),
		"dot in hand":        spoiled(func(p *api.Position) { p.Hands[0] = "." }),
		"@ in hand":          spoiled(func(p *api.Position) { p.Hands[0] = "@" }),
		"[ in hand":          spoiled(func(p *api.Position) { p.Hands[0] = "Z[" }),
		"hand falls":         spoiled(func(p *api.Position) { p.Hands[0] = "ABA" }),
		"other hand falls":   spoiled(func(p *api.Position) { p.Hands[1] = "ZY" }),
	}
}

func TestCheckTakesPositions(t *testing.T) {
	for _, p := range []api.Position{
		fine(),
		{W: 1, H: 1, Cells: "."},
		{W: 8, H: 8, Cells: strings.Repeat("AZaz....", 8), Turn: 1},
		{W: 8, H: 1, Cells: "........", Hands: [2]string{"AAAAAAAA", "STUVWXYZ"}},
		{W: 1, H: 8, Cells: "........", Hands: [2]string{"", "Z"}},
	} {
		if e := board.Check(p); e != api.OK {
			t.Errorf("%+v: %v", p, e)
		}
	}
}

// Each call answers ErrArg of what is no position, and nothing beside it,
// whatever else it is given.
func TestWrongPositions(t *testing.T) {
	for name, p := range wrongPositions() {
		if e := board.Check(p); e != api.ErrArg {
			t.Error(name, "Check:", e)
		}
		if s, e := board.Write(p); s != "" || e != api.ErrArg {
			t.Error(name, "Write:", s, e)
		}
		if n, e := board.Count(p); n != 0 || e != api.ErrArg {
			t.Error(name, "Count:", n, e)
		}
		if n, e := board.Rank(p); n != 0 || e != api.ErrArg {
			t.Error(name, "Rank:", n, e)
		}
		for _, n := range []int64{math.MinInt64, -1, 0, 1, math.MaxInt64} {
			if q, e := board.Unrank(p, n); q != (api.Position{}) || e != api.ErrArg {
				t.Error(name, "Unrank:", n, q, e)
			}
		}
		for _, k := range []int{math.MinInt, -1, 0, 7, 8, math.MaxInt} {
			if q, e := board.Turned(p, k); q != (api.Position{}) || e != api.ErrArg {
				t.Error(name, "Turned:", k, q, e)
			}
			if q, n, e := board.Least(p, []int{k}); q != (api.Position{}) || n != 0 || e != api.ErrArg {
				t.Error(name, "Least:", k, q, n, e)
			}
		}
		if q, e := board.Swapped(p); q != (api.Position{}) || e != api.ErrArg {
			t.Error(name, "Swapped:", q, e)
		}
	}
}

// texts are those of a position that have memory of their own.
func texts(p api.Position) []string {
	var l []string
	for _, s := range []string{p.Cells, p.Hands[0], p.Hands[1]} {
		// The language keeps texts of one byte in a place of its own.
		if len(s) > 1 {
			l = append(l, s)
		}
	}
	return l
}

func shares(a, b string) bool {
	from, to := uintptr(unsafe.Pointer(unsafe.StringData(a))), uintptr(unsafe.Pointer(unsafe.StringData(b)))
	return from < to+uintptr(len(b)) && to < from+uintptr(len(a))
}

func TestAnswersAreNewMemory(t *testing.T) {
	p := fine()
	// One row is the case in which a piece of the text would do as Cells.
	text := strings.Clone("A.zZ b AAZ/BC")
	read, _ := board.Read(text)
	given := append(texts(p), text)
	turned, _ := board.Turned(p, 0)
	least, _, _ := board.Least(p, []int{0})
	swapped, _ := board.Swapped(p)
	unranked, _ := board.Unrank(p, 0)
	for name, q := range map[string]api.Position{"Read": read, "Turned": turned, "Least": least, "Swapped": swapped, "Unrank": unranked} {
		if len(texts(q)) != 3 {
			t.Fatal(name, q)
		}
		for _, a := range texts(q) {
			if slices.ContainsFunc(given, func(b string) bool { return shares(a, b) }) {
				t.Errorf("%s: %q is memory that was handed in", name, a)
			}
		}
	}
}

func TestWhatIsHandedInStays(t *testing.T) {
	room := []int{7, 3, 1, 99, 98}
	if _, _, e := board.Least(fine(), room[:3:5]); e != api.OK {
		t.Error(e)
	}
	if !slices.Equal(room, []int{7, 3, 1, 99, 98}) {
		t.Error(room)
	}
}

func TestCallsAnswerTheSameAgain(t *testing.T) {
	first, _, _ := board.Least(fine(), []int{5, 2, 6})
	board.Least(api.Position{W: 1, H: 1, Cells: "."}, []int{0})
	board.Read("k../")
	if again, _, _ := board.Least(fine(), []int{5, 2, 6}); again != first {
		t.Error(first, again)
	}
}
