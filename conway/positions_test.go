package conway_test

import (
	"cmp"
	"math/rand"
	"slices"
	"strconv"
	"strings"
	"testing"

	"parlour/api"
	"parlour/conway"
)

// textOf writes a list of positions as P21 says.
func textOf(l []conway.Position) string {
	var texts []string
	for _, p := range l {
		texts = append(texts, textOfOne(p, texts))
	}
	return texts[len(texts)-1]
}

// inOrder are texts with commas between.
func inOrder(texts []string) string {
	slices.SortFunc(texts, func(a, b string) int {
		return cmp.Or(cmp.Compare(len(a), len(b)), strings.Compare(a, b))
	})
	return strings.Join(texts, ",")
}

// heaps are the names of the n that are less than the star n.
func heaps(n int) []string {
	names := []string{"0", "*"}
	for k := 2; k < n; k++ {
		names = append(names, "*"+strconv.Itoa(k))
	}
	return names[:n]
}

func textOfOne(p conway.Position, known []string) string {
	switch {
	case p.D == 1:
		return strconv.FormatInt(p.N, 10)
	case p.D > 1:
		return strconv.FormatInt(p.N, 10) + "/" + strconv.FormatInt(p.D, 10)
	}
	var sides []string
	for _, moves := range p.Moves {
		var texts []string
		for _, to := range moves {
			texts = append(texts, known[to])
		}
		sides = append(sides, inOrder(texts))
	}
	n := len(p.Moves[0])
	switch stars := inOrder(heaps(n)); strings.Join(sides, "|") {
	case "0|*":
		return "^"
	case "*|0":
		return "v"
	case stars + "|" + stars:
		return heaps(n + 1)[n]
	}
	return "{" + strings.Join(sides, "|") + "}"
}

func TestPositions(t *testing.T) {
	m := maker{Rand: rand.New(rand.NewSource(30))}
	held, faults := 0, 0
	for range 1500 {
		m.small = !m.small
		text := m.sum(m.Intn(4))
		want, fault := conway.Canon(text)
		l, f := conway.Positions(text)
		switch {
		case f != fault:
			t.Fatalf("%q: %v, not %v", text, f, fault)
		case f.Code != api.OK:
			faults++
			if l != nil {
				t.Errorf("%q: %v", text, l)
			}
		case len(want) < 1<<16:
			held++
			if s := textOf(l); s != want {
				t.Errorf("%q: %q, not %q", text, s, want)
			}
		}
	}
	if held < 1000 || faults < 50 {
		t.Error("too little came up:", held, faults)
	}
	for _, text := range []string{"", "{0|", "60", strings.Repeat("-", 301)} {
		_, fault := conway.Canon(text)
		if l, f := conway.Positions(text); l != nil || f != fault {
			t.Errorf("%q: %v %v, not %v", text, l, f, fault)
		}
	}
}

// A game of few positions is told even if its text is too long to be.
func TestPositionsWithoutText(t *testing.T) {
	heap := "-63/64+{0|{0|-1}}+*8+*7"
	text := "{1|" + heap + "}"
	for range 10 {
		text = "{" + text + "|" + heap + "}"
	}
	if l, f := conway.Positions(text); f != (api.Fault{}) || len(l) != 59 {
		t.Error(len(l), f)
	}
}
