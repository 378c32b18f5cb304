package board_test

import (
	"math/rand"
	"strings"
	"testing"

	"parlour/api"
	"parlour/board"
)

func TestWriteAndRead(t *testing.T) {
	for _, x := range []struct {
		s string
		p api.Position
	}{
		{"k../.../..K w -/-", api.Position{W: 3, H: 3, Cells: "..K...k.."}},
		{". w -/-", api.Position{W: 1, H: 1, Cells: "."}},
		{"zaZA b -/-", api.Position{W: 4, H: 1, Cells: "zaZA", Turn: 1}},
		{"w/b w W/-", api.Position{W: 1, H: 2, Cells: "bw", Hands: [2]string{"W", ""}}},
		{"AB/CD/EF b AAB/ZZ", api.Position{W: 2, H: 3, Cells: "EFCDAB", Turn: 1, Hands: [2]string{"AAB", "ZZ"}}},
		{". b -/AAAAAAAA", api.Position{W: 1, H: 1, Cells: ".", Turn: 1, Hands: [2]string{"", "AAAAAAAA"}}},
		{". w STUVWXYZ/-", api.Position{W: 1, H: 1, Cells: ".", Hands: [2]string{"STUVWXYZ", ""}}},
		{"A/B/C/D/E/F/G/H w -/-", api.Position{W: 1, H: 8, Cells: "HGFEDCBA"}},
		{"abcdefgh w -/-", api.Position{W: 8, H: 1, Cells: "abcdefgh"}},
		{
			strings.Repeat("p......./", 7) + ".......P b -/-",
			api.Position{W: 8, H: 8, Cells: ".......P" + strings.Repeat("p.......", 7), Turn: 1},
		},
	} {
		if s, e := board.Write(x.p); s != x.s || e != api.OK {
			t.Errorf("Write %+v: %q %v", x.p, s, e)
		}
		if p, f := board.Read(x.s); p != x.p || f != (api.Fault{}) {
			t.Errorf("Read %q: %+v %v", x.s, p, f)
		}
	}
}

func TestReadFaults(t *testing.T) {
	full := strings.Repeat("......../", 7) + "........"
	for _, x := range []struct {
		s  string
		at int
	}{
		{"", 0},
		{"/", 0},
		{" w -/-", 0},
		{"1 w -/-", 0},
		{"é w -/-", 0},
		{"..\x00 w -/-", 2},
		{"k../", 4},
		{"k..//", 4},
		{"k.. w -/-\n", 9},
		{"k../.. w -/-", 6},
		{"k../../... w -/-", 6},
		{"k../.... w -/-", 7},
		{"........", 8},
		{"......... w -/-", 8},
		{"./././././././.", 15},
		{"./././././././././. w -/-", 15},
		{full + "/", len(full)},
		{full + ".", len(full)},
		{full, len(full)},
		{".", 1},
		{". ", 2},
		{".  ", 2},
		{". W -/-", 2},
		{". w", 3},
		{". wb", 3},
		{". w/", 3},
		{". w ", 4},
		{". w /-", 4},
		{". w a/-", 4},
		{". w ./-", 4},
		{". w [/-", 4},
		{". w @/-", 4},
		{". w -", 5},
		{". w --/-", 5},
		{". w -A/-", 5},
		{". w A-/-", 5},
		{". w A", 5},
		{". w A -", 5},
		{". w BA/-", 5},
		{". w BCB/-", 6},
		{". w AAAAAAAA", 12},
		{". w AAAAAAAAA/-", 12},
		{". w -/", 6},
		{". w -//", 6},
		{". w -/-/", 7},
		{". w -/-A", 7},
		{". w -/A-", 7},
		{". w -/A ", 7},
		{". w -/A\x00", 7},
		{". w -/BA", 7},
		{". w -/Aa", 7},
		{". w -/AAAAAAAAA", 14},
	} {
		if p, f := board.Read(x.s); p != (api.Position{}) || f != (api.Fault{Code: api.ErrSyntax, At: x.at}) {
			t.Errorf("%q: %+v %v, not at %d", x.s, p, f, x.at)
		}
	}
}

// shape is a text with W columns, H rows and so many letters in the hands: c
// for a cell, t for a turn, A for a letter of a hand, else the byte itself.
func shape(w, h, first, second int) string {
	hand := func(n int) string {
		if n == 0 {
			return "-"
		}
		return strings.Repeat("A", n)
	}
	rows := strings.Repeat(strings.Repeat("c", w)+"/", h)
	return rows[:len(rows)-1] + " t " + hand(first) + "/" + hand(second)
}

func allShapes() []string {
	var l []string
	for w := 1; w <= api.MaxSide; w++ {
		for h := 1; h <= api.MaxSide; h++ {
			for first := range api.MaxHand + 1 {
				for second := range api.MaxHand + 1 {
					l = append(l, shape(w, h, first, second))
				}
			}
		}
	}
	return l
}

func fits(shape, s string, at int) bool {
	switch c := s[at]; shape[at] {
	case 'c':
		return c == '.' || 'A' <= c && c <= 'Z' || 'a' <= c && c <= 'z'
	case 't':
		return c == 'w' || c == 'b'
	case 'A':
		return 'A' <= c && c <= 'Z' && (shape[at-1] != 'A' || s[at-1] <= c)
	default:
		return c == shape[at]
	}
}

// faultOf holds a text against all shapes: where the last of them is left,
// and whether the text is a whole one.
func faultOf(shapes []string, s string) (at int, whole bool) {
	for _, x := range shapes {
		i := 0
		for i < len(s) && i < len(x) && fits(x, s, i) {
			i++
		}
		at = max(at, i)
		whole = whole || i == len(s) && i == len(x)
	}
	return at, whole
}

func randomText(r *rand.Rand) string {
	const cells, hand = "..AKZakzwb", "AABKZ"
	s := []byte(shape(1+r.Intn(8), 1+r.Intn(8), r.Intn(9), r.Intn(9)))
	for i, c := range s {
		switch c {
		case 'c':
			s[i] = cells[r.Intn(len(cells))]
		case 't':
			s[i] = "wb"[r.Intn(2)]
		case 'A':
			if r.Intn(4) == 0 {
				s[i] = hand[r.Intn(len(hand))]
			}
		}
	}
	return string(s)
}

// changed has one byte put in, taken out or put in another's place, or ends early.
func changed(r *rand.Rand, s string) string {
	const bytes = "./- wbAZaz0\x00\xff"
	at, c := r.Intn(len(s)), bytes[r.Intn(len(bytes))]
	switch r.Intn(5) {
	case 0:
		return s[:at] + string([]byte{c}) + s[at:]
	case 1:
		return s[:at] + s[at+1:]
	case 2:
		return s[:at] + string([]byte{c}) + s[at+1:]
	case 3:
		return s[:at]
	default:
		return s
	}
}

func TestReadAgainstAllShapes(t *testing.T) {
	shapes, r := allShapes(), rand.New(rand.NewSource(1))
	wholes := 0
	for range 1500 {
		s := changed(r, randomText(r))
		at, whole := faultOf(shapes, s)
		p, f := board.Read(s)
		if !whole {
			if p != (api.Position{}) || f != (api.Fault{Code: api.ErrSyntax, At: at}) {
				t.Errorf("%q: %+v %v, not at %d", s, p, f, at)
			}
			continue
		}
		wholes++
		if again, e := board.Write(p); f != (api.Fault{}) || e != api.OK || again != s {
			t.Errorf("%q: %+v %v %q %v", s, p, f, again, e)
		}
	}
	if wholes < 100 {
		t.Error("only", wholes, "texts were whole")
	}
}
