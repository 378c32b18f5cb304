package thermo_test

import (
	"math/big"
	"math/rand"
	"strconv"
	"strings"
	"testing"

	"parlour/api"
	"parlour/conway"
	"parlour/thermo"
)

// What stands here says P22 over again, slowly: from the text of the canonical
// game, with fractions of any size, at one t at a time.

// tree is a game: a number, or what both players can move to.
type tree struct {
	text        string
	number      *big.Rat
	left, right []*tree
	temperature *big.Rat
	depth       int
}

// grower reads texts as Canon writes them; what is the same is the same tree.
type grower map[string]*tree

// parts cuts a text at the commas outside of all braces.
func parts(text string) []string {
	if text == "" {
		return nil
	}
	var all []string
	depth, from := 0, 0
	for i := range len(text) {
		switch text[i] {
		case '{':
			depth++
		case '}':
			depth--
		case ',':
			if depth == 0 {
				all = append(all, text[from:i])
				from = i + 1
			}
		}
	}
	return append(all, text[from:])
}

// bar is where the | of a text in braces stands.
func bar(text string) int {
	depth := 0
	for i := range len(text) {
		switch text[i] {
		case '{':
			depth++
		case '}':
			depth--
		case '|':
			if depth == 1 {
				return i
			}
		}
	}
	return -1
}

func (g grower) tree(text string) *tree {
	if g[text] != nil {
		return g[text]
	}
	t := &tree{text: text}
	switch text[0] {
	case '{':
		at := bar(text)
		t.left, t.right = g.trees(parts(text[1:at])), g.trees(parts(text[at+1:len(text)-1]))
	case '*':
		n := 1
		if text != "*" {
			n, _ = strconv.Atoi(text[1:])
		}
		for k := range n {
			name := "*" + strconv.Itoa(k)
			if k < 2 {
				name = []string{"0", "*"}[k]
			}
			t.left = append(t.left, g.tree(name))
		}
		t.right = t.left
	case '^':
		t.left, t.right = g.trees([]string{"0"}), g.trees([]string{"*"})
	case 'v':
		t.left, t.right = g.trees([]string{"*"}), g.trees([]string{"0"})
	default:
		t.number, _ = new(big.Rat).SetString(text)
	}
	t.warm()
	g[text] = t
	return t
}

func (g grower) trees(texts []string) []*tree {
	var all []*tree
	for _, s := range texts {
		all = append(all, g.tree(s))
	}
	return all
}

type pair struct{ left, right *big.Rat }

// scaffolds are l and r.
func (g *tree) scaffolds(t *big.Rat, known map[*tree]pair) pair {
	var p pair
	for _, to := range g.left {
		if x := less(to.walls(t, known).right, t); p.left == nil || x.Cmp(p.left) > 0 {
			p.left = x
		}
	}
	for _, to := range g.right {
		if x := sum(to.walls(t, known).left, t); p.right == nil || x.Cmp(p.right) < 0 {
			p.right = x
		}
	}
	return p
}

func (g *tree) walls(t *big.Rat, known map[*tree]pair) pair {
	if p, ok := known[g]; ok {
		return p
	}
	var p pair
	switch {
	case g.number != nil:
		p = pair{g.number, g.number}
	case t.Cmp(g.temperature) < 0:
		p = g.scaffolds(t, known)
	default:
		mean := g.mean()
		p = pair{mean, mean}
	}
	known[g] = p
	return p
}

func (g *tree) mean() *big.Rat {
	if g.number != nil {
		return g.number
	}
	return g.scaffolds(g.temperature, map[*tree]pair{}).left
}

// warm looks for the temperature among all fractions that it can be, by halves.
func (g *tree) warm() {
	for _, to := range append(append([]*tree{}, g.left...), g.right...) {
		g.depth = max(g.depth, to.depth+1)
	}
	if g.number != nil {
		g.depth = g.number.Denom().BitLen() - 1
		return
	}
	step := new(big.Rat).SetFrac(big.NewInt(1), new(big.Int).Lsh(big.NewInt(1), uint(g.depth)))
	low, high := big.NewInt(-1), new(big.Int).Lsh(big.NewInt(64), uint(g.depth))
	for new(big.Int).Sub(high, low).Cmp(big.NewInt(1)) > 0 {
		middle := new(big.Int).Rsh(new(big.Int).Add(low, high), 1)
		p := g.scaffolds(times(step, new(big.Rat).SetInt(middle)), map[*tree]pair{})
		if p.left.Cmp(p.right) <= 0 {
			high = middle
		} else {
			low = middle
		}
	}
	g.temperature = times(step, new(big.Rat).SetInt(high))
}

// maker makes texts by chance, of games about a number that are about so hot.
type maker struct{ *rand.Rand }

func (m maker) number(about, heat int) string {
	n := about + m.Intn(2*heat+1) - heat
	s := strconv.Itoa(n)
	switch m.Intn(12) {
	case 0:
		s += "+" + strconv.Itoa(2*m.Intn(20)+1) + "/" + strconv.Itoa(2<<m.Intn(6))
	case 1:
		s += "+" + nested(m.Intn(30))
	case 2:
		s += "+" + []string{"*", "^", "v", "*2", "{0|{0|-2}}", "{{1|0}|0}"}[m.Intn(6)]
	}
	return s
}

func (m maker) game(about, heat, depth int) string {
	if depth == 0 || m.Intn(12) == 0 {
		return m.number(about, heat/2)
	}
	s := "{" + m.list(about, heat, depth, 1) + "|" + m.list(about, heat, depth, -1) + "}"
	if m.Intn(8) == 0 {
		s += []string{"+", "-"}[m.Intn(2)] + m.game(0, heat, m.Intn(2))
	}
	return s
}

func (m maker) list(about, heat, depth, sign int) string {
	var all []string
	for range 1 + m.Intn(3)*m.Intn(2) {
		all = append(all, m.game(about+sign*m.Intn(heat+1), 1+m.Intn(2*heat), depth-1-m.Intn(min(depth, 2))))
	}
	return strings.Join(all, ",")
}

// tower is a game within a game, as deep as the text may be long.
func (m maker) tower() string {
	s := m.number(0, 2)
	for len(s) < 40+m.Intn(250) {
		x := strconv.Itoa(m.Intn(7))
		if m.Intn(3) == 0 {
			x = m.number(2, 3)
		}
		switch m.Intn(5) {
		case 0, 1:
			s = "{" + x + "|" + s + "}"
		case 2, 3:
			s = "{" + s + "|-" + x + "}"
		case 4:
			s = "{" + x + ",{9|-" + x + "}|" + s + "}"
		}
	}
	return s
}

// some are t's: at random, and about the temperature.
func (m maker) some(g *tree) []*big.Rat {
	d := int64(1 + m.Intn(4096))
	all := []*big.Rat{ratio(0, 1), ratio(1, 1+m.Int63n(4096)), ratio(m.Int63n(100*d+1), d), ratio(m.Int63n(9*d+1), d), ratio(m.Int63n(2*d+1), d)}
	if g.number == nil {
		for _, d := range []int64{4096, 4095, 64, d} {
			near := new(big.Int).Quo(new(big.Int).Mul(g.temperature.Num(), big.NewInt(d)), g.temperature.Denom()).Int64()
			all = append(all, ratio(max(0, near-1), d), ratio(near, d), ratio(near+1, d), ratio(m.Int63n(near+1), d))
		}
	}
	return all
}

// holds: all that is told of a text is as it is worked out here.
func holds(t *testing.T, m maker, text string, kinds map[string]int) {
	c, f := conway.Canon(text)
	if f.Code != api.OK {
		kinds["fault"]++
		fails(t, text, f)
		return
	}
	if len(c) > 30000 {
		kinds["long"]++
		return
	}
	g := grower{}.tree(c)
	if g.number != nil {
		kinds["cold"]++
		measures(t, text, c, "cold")
	} else {
		p := g.scaffolds(g.temperature, map[*tree]pair{})
		if p.left.Cmp(p.right) != 0 {
			t.Fatalf("%q: %v %v", text, p, g.temperature)
		}
		kinds["warm"]++
		if g.temperature.Sign() > 0 {
			kinds["hot"]++
		}
		if g.temperature.Denom().BitLen() > 10 {
			kinds["fine"]++
		}
		measures(t, text, told(p.left), told(g.temperature))
	}
	for _, at := range m.some(g) {
		p := g.walls(at, map[*tree]pair{})
		above := p.left.Cmp(p.right) > 0
		if above {
			kinds["below"]++
		}
		if above != (g.number == nil && at.Cmp(g.temperature) < 0) {
			t.Fatalf("%q: %v at %v", text, p, at)
		}
		walls(t, text, told(at), told(p.left), told(p.right))
	}
}

func TestManyGames(t *testing.T) {
	m := maker{rand.New(rand.NewSource(22))}
	kinds := map[string]int{}
	for range 800 {
		holds(t, m, m.game(m.Intn(9)-4, 1+m.Intn(8), 1+m.Intn(4)), kinds)
		holds(t, m, m.tower(), kinds)
	}
	for kind, least := range map[string]int{"fault": 50, "cold": 50, "warm": 800, "hot": 500, "fine": 50, "below": 8000} {
		if kinds[kind] < least {
			t.Error("too little came up:", kind, kinds)
		}
	}
}

// measured: not ok, if the text's game is too large.
func measured(text string) (mean, temperature *big.Rat, ok bool) {
	a, f := thermo.Mean(text)
	b, _ := thermo.Temperature(text)
	if f.Code != api.OK {
		return nil, nil, false
	}
	mean, _ = new(big.Rat).SetString(a)
	temperature, _ = new(big.Rat).SetString(strings.Replace(b, "cold", "-1", 1))
	return mean, temperature, true
}

// Means of sums are sums of means, and no sum is hotter than its hottest part;
// none of this hangs on how walls are made.
func TestLaws(t *testing.T) {
	m := maker{rand.New(rand.NewSource(23))}
	held := 0
	for range 1200 {
		a, b := m.game(m.Intn(5)-2, 1+m.Intn(4), 1+m.Intn(2)), m.game(m.Intn(5)-2, 1+m.Intn(4), 1+m.Intn(2))
		x, p, ok := measured(a)
		y, q, alsoOK := measured(b)
		z, r, bothOK := measured("(" + a + ")+(" + b + ")")
		if !ok || !alsoOK || !bothOK {
			continue
		}
		held++
		if sum(x, y).Cmp(z) != 0 || r.Cmp(p) > 0 && r.Cmp(q) > 0 {
			t.Error(a, b, x, y, z, p, q, r)
		}
		if p.Cmp(q) > 0 && r.Cmp(p) != 0 || q.Cmp(p) > 0 && r.Cmp(q) != 0 {
			t.Error(a, b, p, q, r)
		}
	}
	if held < 500 {
		t.Error("too little came up:", held)
	}
}
