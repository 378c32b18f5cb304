package conway

import (
	"slices"
	"strconv"
)

// nature is what a canonical game is written as: a number has a fraction, a star
// the size of its heap.
type nature struct {
	kind int
	fraction
	heap int
}

// nameOf is empty of a game that has none.
func nameOf(n nature) string {
	switch n.kind {
	case number:
		return n.text()
	case star:
		if n.heap == 1 {
			return "*"
		}
		return "*" + strconv.Itoa(n.heap)
	case up:
		return "^"
	case down:
		return "v"
	}
	return ""
}

// namer tells the natures of games, and keeps those that it was asked for.
type namer struct {
	*tables
	natures map[game]nature
}

func newNamer(t *tables) *namer { return &namer{tables: t, natures: map[game]nature{}} }

func (n *namer) nature(g game) nature {
	x, known := n.natures[g]
	if !known {
		x = n.natureOf(g)
		n.natures[g] = x
	}
	return x
}

// natureOf needs to know those of what can be moved to.
func (n *namer) natureOf(g game) nature {
	l, r := n.moves[g][left], n.moves[g][right]
	if f, ok := n.fractionOf(l, r); ok {
		return nature{kind: number, fraction: f}
	}
	if slices.Equal(l, r) && n.areHeaps(l) {
		return nature{kind: star, heap: len(l)}
	}
	if len(l) == 1 && len(r) == 1 {
		switch {
		case l[0] == zero && n.isStar(r[0]):
			return nature{kind: up}
		case n.isStar(l[0]) && r[0] == zero:
			return nature{kind: down}
		}
	}
	return nature{kind: braces}
}

func (n *namer) areHeaps(games []game) bool {
	return !slices.ContainsFunc(games, func(g game) bool { return g != zero && n.nature(g).kind != star })
}

// isStar tells whether it is the one with a heap of one.
func (n *namer) isStar(g game) bool {
	x := n.nature(g)
	return x.kind == star && x.heap == 1
}

// fractionOf is the number that has these moves, if it is one: of a canonical
// game in which only one can move it is a whole one, of one in which both can
// it lies in the middle.
func (n *namer) fractionOf(l, r []game) (fraction, bool) {
	if len(l) > 1 || len(r) > 1 || !n.areNumbers(l) || !n.areNumbers(r) {
		return fraction{}, false
	}
	switch {
	case len(l) > 0 && len(r) > 0:
		return middle(n.nature(l[0]).fraction, n.nature(r[0]).fraction)
	case len(l) > 0:
		return fraction{n.nature(l[0]).n + 1, 1}, true
	case len(r) > 0:
		return fraction{n.nature(r[0]).n - 1, 1}, true
	}
	return fraction{0, 1}, true
}

func (n *namer) areNumbers(games []game) bool {
	return !slices.ContainsFunc(games, func(g game) bool { return n.nature(g).kind != number })
}

// fraction is n/d in lowest terms; d is a power of 2. What is written has no
// more than 60 positions, so that neither is above 2^58.
type fraction struct{ n, d int64 }

func (f fraction) text() string {
	n := strconv.FormatInt(f.n, 10)
	if f.d == 1 {
		return n
	}
	return n + "/" + strconv.FormatInt(f.d, 10)
}

// middle is the fraction that lies in the middle; not ok, if a is not below b.
func middle(a, b fraction) (f fraction, ok bool) {
	d := max(a.d, b.d)
	x, y := a.n*(d/a.d), b.n*(d/b.d)
	if x >= y {
		return fraction{}, false
	}
	f = fraction{x + y, 2 * d}
	for f.n%2 == 0 && f.d > 1 {
		f = fraction{f.n / 2, f.d / 2}
	}
	return f, true
}
