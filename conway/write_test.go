package conway

import (
	"cmp"
	"math/rand"
	"slices"
	"strings"
	"testing"
)

// plain writes a game with all texts made, and sorted as they are.
func plain(w *writer, g game, known map[game]string) string {
	if s, ok := known[g]; ok {
		return s
	}
	s := w.wording(g).name
	if w.wording(g).kind == braces {
		var lists []string
		for _, moves := range w.moves[g] {
			var texts []string
			for _, to := range moves {
				texts = append(texts, plain(w, to, known))
			}
			slices.SortFunc(texts, func(a, b string) int {
				return cmp.Or(cmp.Compare(len(a), len(b)), strings.Compare(a, b))
			})
			lists = append(lists, strings.Join(texts, ","))
		}
		s = "{" + strings.Join(lists, "|") + "}"
	}
	known[g] = s
	return s
}

// someMoves are none to three different games, the last ones rather than others.
func someMoves(rnd *rand.Rand, t *tables) []game {
	var moves []game
	for range rnd.Intn(4) {
		g := game(max(0, len(t.moves)-1-rnd.Intn(25)))
		if !slices.Contains(moves, g) {
			moves = append(moves, g)
		}
	}
	return moves
}

// Games that need not be canonical have more texts that are as long as others
// and differ late, or only in a byte between two that are the same.
func TestTextsWithoutMakingThem(t *testing.T) {
	rnd := rand.New(rand.NewSource(21))
	asLong, written := 0, 0
	for range 400 {
		tables := newTables()
		for _, s := range []string{"1/2", "12", "-1", "*3", "^", "v"} {
			tables.read(s)
		}
		for range 30 {
			tables.enter(sides{someMoves(rnd, tables), someMoves(rnd, tables)})
		}
		w := newWriter(tables)
		known := map[game]string{}
		for i := range tables.moves {
			a := game(i)
			if w.wording(a).size > 1<<16 {
				continue
			}
			want := plain(w, a, known)
			if s := tables.text(a); s != want || w.wording(a).size != len(want) {
				t.Fatalf("%q, not %q", s, want)
			}
			written++
			for k := range i {
				b := known[game(k)]
				if b == "" || len(b) != len(want) || b == want {
					continue
				}
				asLong++
				if w.compare(a, game(k)) != strings.Compare(want, b) || w.compare(game(k), a) != strings.Compare(b, want) {
					t.Fatal(want, b)
				}
			}
		}
	}
	if asLong < 1000 || written < 1000 {
		t.Error("too little came up:", asLong, written)
	}
}

// Up to the byte between the second game and the third the two are the same.
func TestOrderByWhatStandsBetween(t *testing.T) {
	tables := newTables()
	x, y := tables.read("{8|-8}"), tables.read("{9|-9}")
	a, b := tables.enter(sides{{x, y}, {y}}), tables.enter(sides{{x}, {y, y}})
	w := newWriter(tables)
	if tables.text(a) != "{{8|-8},{9|-9}|{9|-9}}" || tables.text(b) != "{{8|-8}|{9|-9},{9|-9}}" || w.compare(a, b) >= 0 || w.compare(b, a) <= 0 {
		t.Error(tables.text(a), tables.text(b), w.compare(a, b), w.compare(b, a))
	}
}

// Beyond what is promised of long texts nothing is made.
func TestTextsThatAreTooLong(t *testing.T) {
	tables := newTables()
	g := tables.read("{1|-1}")
	for range 50 {
		g = tables.enter(sides{{g, zero}, {g}})
	}
	if f := caught(func() { tables.text(g) }); f.At != -1 {
		t.Error(f)
	}
}
