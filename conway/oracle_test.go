package conway_test

import (
	"cmp"
	"fmt"
	"math/rand"
	"slices"
	"strconv"
	"strings"
	"testing"

	"parlour/api"
	"parlour/conway"
)

// What stands here says the promises over again, in another way and slowly: games
// are as their texts say, with all their moves, and are played to the end.

// node is a game with just these moves of Left and of Right.
type node struct{ left, right []int }

// fight is the game x-y, and who begins.
type fight struct {
	x, y int
	left bool
}

type slow struct {
	nodes     []node
	ids       map[string]int
	won       map[fight]bool
	less      map[int]int // negatives
	fractions map[[2]int]int
	canon     map[int]int
	names     map[int]string
	parts     []int // what was met of parts of a text
	wide      bool  // whether a {} was met with more than 10 games on a side
	most      int   // how many nodes there may be
}

// tired is thrown by one who has more nodes than there may be.
type tired struct{}

func newSlow() *slow {
	s := &slow{ids: map[string]int{}, won: map[fight]bool{}, less: map[int]int{}, fractions: map[[2]int]int{}, canon: map[int]int{}, names: map[int]string{}, most: 1 << 30}
	for d := 1; d <= 512; d *= 2 {
		for n := range max(80, 60*min(d, 16)) {
			if d == 1 || n%2 == 1 {
				s.call(s.number(n, d), n, d)
			}
		}
	}
	for n := 1; n < 16; n++ {
		s.names[s.star(n)] = "*" + strconv.Itoa(n)
	}
	s.names[s.star(1)] = "*"
	s.names[s.game("^")] = "^"
	s.names[s.game("v")] = "v"
	return s
}

func (s *slow) call(number, n, d int) {
	name := strconv.Itoa(n)
	if d > 1 {
		name += "/" + strconv.Itoa(d)
	}
	if n > 0 {
		s.names[s.minus(number)] = "-" + name
	}
	s.names[number] = name
}

func (s *slow) node(left, right []int) int {
	n := node{}
	for _, side := range []struct {
		from []int
		to   *[]int
	}{{left, &n.left}, {right, &n.right}} {
		*side.to = slices.Compact(slices.Sorted(slices.Values(side.from)))
	}
	key := fmt.Sprint(n)
	id, ok := s.ids[key]
	if !ok {
		id = len(s.nodes)
		if id > s.most {
			panic(tired{})
		}
		s.ids[key] = id
		s.nodes = append(s.nodes, n)
	}
	return id
}

func (s *slow) number(n, d int) int {
	for d > 1 && n%2 == 0 {
		n, d = n/2, d/2
	}
	key := [2]int{n, d}
	if id, ok := s.fractions[key]; ok {
		return id
	}
	switch {
	case n == 0:
		s.fractions[key] = s.node(nil, nil)
	case d == 1:
		s.fractions[key] = s.node([]int{s.number(n-1, 1)}, nil)
	default:
		s.fractions[key] = s.node([]int{s.number(n-1, d)}, []int{s.number(n+1, d)})
	}
	return s.fractions[key]
}

func (s *slow) star(n int) int {
	all := []int{}
	for range n {
		all = append(all, s.node(all, all))
	}
	return s.node(all, all)
}

func (s *slow) minus(g int) int {
	if id, ok := s.less[g]; ok {
		return id
	}
	var left, right []int
	for _, to := range s.nodes[g].right {
		left = append(left, s.minus(to))
	}
	for _, to := range s.nodes[g].left {
		right = append(right, s.minus(to))
	}
	s.less[g] = s.node(left, right)
	return s.less[g]
}

func (s *slow) plus(a, b int, known map[[2]int]int) int {
	if id, ok := known[[2]int{a, b}]; ok {
		return id
	}
	var left, right []int
	for _, to := range s.nodes[a].left {
		left = append(left, s.plus(to, b, known))
	}
	for _, to := range s.nodes[b].left {
		left = append(left, s.plus(a, to, known))
	}
	for _, to := range s.nodes[a].right {
		right = append(right, s.plus(to, b, known))
	}
	for _, to := range s.nodes[b].right {
		right = append(right, s.plus(a, to, known))
	}
	known[[2]int{a, b}] = s.node(left, right)
	return known[[2]int{a, b}]
}

// split cuts a text where one of the bytes stands outside of all brackets and
// braces.
func split(text, bytes string) []string {
	var all []string
	depth, from := 0, 0
	for i := range len(text) {
		switch c := text[i]; {
		case c == '(' || c == '{':
			depth++
		case c == ')' || c == '}':
			depth--
		case depth == 0 && strings.IndexByte(bytes, c) >= 0:
			all = append(all, text[from:i])
			from = i + 1
		}
	}
	return append(all, text[from:])
}

// lastSign is where the last + or - stands between two terms, or -1.
func lastSign(text string) int {
	at, depth := -1, 0
	for i := range len(text) {
		switch c := text[i]; {
		case c == '(' || c == '{':
			depth++
		case c == ')' || c == '}':
			depth--
		case depth == 0 && i > 0 && (c == '+' || c == '-') && strings.IndexByte("+-", text[i-1]) < 0:
			at = i
		}
	}
	return at
}

// game is that of a text which is right, each part of which it notes.
func (s *slow) game(text string) int {
	g := 0
	switch at := lastSign(text); {
	case at > 0:
		a, b := s.game(text[:at]), s.game(text[at+1:])
		if text[at] == '-' {
			b = s.minus(b)
		}
		g = s.plus(a, b, map[[2]int]int{})
	case text[0] == '-':
		g = s.minus(s.game(text[1:]))
	default:
		g = s.atom(text)
	}
	s.parts = append(s.parts, g)
	return g
}

func (s *slow) atom(text string) int {
	switch inner := text[1:max(1, len(text)-1)]; text[0] {
	case '*':
		if text == "*" {
			return s.star(1)
		}
		n, _ := strconv.Atoi(text[1:])
		return s.star(n)
	case '^':
		return s.node([]int{s.star(0)}, []int{s.star(1)})
	case 'v':
		return s.node([]int{s.star(1)}, []int{s.star(0)})
	case '(':
		return s.game(inner)
	case '{':
		var sides [2][]int
		for i, side := range split(inner, "|") {
			if side == "" {
				continue
			}
			for _, x := range split(side, ",") {
				sides[i] = append(sides[i], s.game(x))
			}
			s.wide = s.wide || len(sides[i]) > 10
		}
		return s.node(sides[0], sides[1])
	}
	n, d, _ := strings.Cut(text+"/1", "/")
	d, _, _ = strings.Cut(d, "/")
	a, _ := strconv.Atoi(n)
	b, _ := strconv.Atoi(d)
	return s.number(a, b)
}

// winsFirst: who begins x-y wins if there is a move behind which the other one,
// who begins then, does not.
func (s *slow) winsFirst(f fight) bool {
	if won, ok := s.won[f]; ok {
		return won
	}
	in, out := s.nodes[f.x].right, s.nodes[f.y].left
	if f.left {
		in, out = s.nodes[f.x].left, s.nodes[f.y].right
	}
	won := false
	for _, to := range in {
		won = won || !s.winsFirst(fight{to, f.y, !f.left})
	}
	for _, to := range out {
		won = won || !s.winsFirst(fight{f.x, to, !f.left})
	}
	s.won[f] = won
	return won
}

func (s *slow) atLeast(a, b int) bool { return !s.winsFirst(fight{a, b, false}) }

func (s *slow) order(a, b int) int {
	switch more, less := s.atLeast(a, b), s.atLeast(b, a); {
	case more && less:
		return api.Same
	case more:
		return api.Greater
	case less:
		return api.Less
	}
	return api.Confused
}

// canonical leaves out what is dominated and goes by what is reversible, one move
// after the other, until there is none.
func (s *slow) canonical(g int) int {
	if c, ok := s.canon[g]; ok {
		return c
	}
	var left, right []int
	for _, to := range s.nodes[g].left {
		left = append(left, s.canonical(to))
	}
	for _, to := range s.nodes[g].right {
		right = append(right, s.canonical(to))
	}
	id := s.node(left, right)
	for {
		n, changed := s.simpler(id)
		if !changed {
			break
		}
		id = s.node(n.left, n.right)
	}
	s.canon[g] = id
	return id
}

// simpler is the game with one move less that is dominated, or with others
// instead of one that is reversible.
func (s *slow) simpler(id int) (node, bool) {
	n := s.nodes[id]
	for i, a := range n.left {
		for j, b := range n.left {
			if i != j && s.atLeast(b, a) {
				return node{slices.Delete(slices.Clone(n.left), i, i+1), n.right}, true
			}
		}
		for _, b := range s.nodes[a].right {
			if s.atLeast(id, b) {
				return node{append(slices.Delete(slices.Clone(n.left), i, i+1), s.nodes[b].left...), n.right}, true
			}
		}
	}
	for i, a := range n.right {
		for j, b := range n.right {
			if i != j && s.atLeast(a, b) {
				return node{n.left, slices.Delete(slices.Clone(n.right), i, i+1)}, true
			}
		}
		for _, b := range s.nodes[a].left {
			if s.atLeast(b, id) {
				return node{n.left, append(slices.Delete(slices.Clone(n.right), i, i+1), s.nodes[b].right...)}, true
			}
		}
	}
	return node{}, false
}

func (s *slow) positions(id int, met map[int]bool) int {
	met[id] = true
	for _, to := range slices.Concat(s.nodes[id].left, s.nodes[id].right) {
		if !met[to] {
			s.positions(to, met)
		}
	}
	return len(met)
}

func (s *slow) text(id int) string {
	if name, ok := s.names[id]; ok {
		return name
	}
	var sides []string
	for _, moves := range [][]int{s.nodes[id].left, s.nodes[id].right} {
		var texts []string
		for _, to := range moves {
			texts = append(texts, s.text(to))
		}
		slices.SortFunc(texts, func(a, b string) int {
			return cmp.Or(cmp.Compare(len(a), len(b)), strings.Compare(a, b))
		})
		sides = append(sides, strings.Join(texts, ","))
	}
	return "{" + strings.Join(sides, "|") + "}"
}

// answer is what P21 says of a text that is right; not ok, if it takes too long
// to find out.
func (s *slow) answer(text string) (game int, c string, f api.Fault, ok bool) {
	defer func() {
		s.most = 1 << 30
		if thrown := recover(); thrown != nil {
			if _, is := thrown.(tired); !is {
				panic(thrown)
			}
			game, c, f, ok = 0, "", api.Fault{}, false
		}
	}()
	s.most = len(s.nodes) + 600
	s.parts, s.wide = nil, false
	game = s.game(text)
	large := s.wide
	for _, part := range s.parts {
		large = large || s.positions(s.canonical(part), map[int]bool{}) > 60
	}
	if large {
		return game, "", api.Fault{Code: api.ErrLarge, At: -1}, true
	}
	return game, s.text(s.canonical(game)), f, true
}

// maker makes texts by chance. Some are of small games only, in which more moves
// are worth something.
type maker struct {
	*rand.Rand
	small bool
}

func (m maker) sum(depth int) string {
	text := m.term(depth)
	for m.Intn(4) == 0 {
		text += string("+-"[m.Intn(2)]) + m.term(depth)
	}
	return text
}

func (m maker) term(depth int) string {
	if m.Intn(6) == 0 {
		return "-" + m.term(depth)
	}
	switch k := m.Intn(20); {
	case depth > 0 && k < 12:
		return "{" + m.list(depth) + "|" + m.list(depth) + "}"
	case depth > 0 && k == 12:
		return "(" + m.sum(depth-1) + ")"
	case k < 14:
		return "*" + strconv.Itoa(m.Intn(4))
	case k < 15:
		return "^"
	case k < 16:
		return "v"
	case m.small:
		return strconv.Itoa(m.Intn(2))
	case k < 18:
		return strconv.Itoa(2*m.Intn(6)+1) + "/" + strconv.Itoa(2<<m.Intn(3))
	case m.Intn(20) == 0:
		return strconv.Itoa(m.Intn(70))
	}
	return strconv.Itoa(m.Intn(9))
}

func (m maker) list(depth int) string {
	var all []string
	n := m.Intn(4)
	if m.Intn(60) == 0 {
		n = 9 + m.Intn(3)
	}
	for range n {
		all = append(all, m.sum(depth-1))
	}
	return strings.Join(all, ",")
}

func TestManyGames(t *testing.T) {
	m := maker{Rand: rand.New(rand.NewSource(9))}
	kinds := map[string]int{}
	orders := map[int]int{}
	for range 45 {
		s := newSlow()
		var texts []string
		var games []int
		for range 100 {
			m.small = !m.small
			text := m.sum(m.Intn(4))
			if len(text) > 300 {
				continue
			}
			g, want, fault, ok := s.answer(text)
			if !ok {
				kinds["tired"]++
				continue
			}
			if c, f := conway.Canon(text); c != want || f != fault {
				t.Fatalf("%q: %q %v, not %q %v", text, c, f, want, fault)
			}
			switch {
			case fault.Code != api.OK:
				kinds["large"]++
				continue
			case want[0] != '{':
				kinds["named"]++
			case strings.Count(want, "{") < 4:
				kinds["some"]++
			default:
				kinds["many"]++
			}
			texts, games = append(texts, text), append(games, g)
		}
		for i := range games {
			for j := max(0, i-7); j <= i; j++ {
				want := s.order(games[i], games[j])
				orders[want]++
				compare(t, texts[i], texts[j], want)
			}
		}
	}
	for _, kind := range []string{"large", "named", "some", "many"} {
		if kinds[kind] < 50 {
			t.Error("too little came up:", kinds)
		}
	}
	for order := api.Less; order <= api.Confused; order++ {
		if orders[order] < 100 {
			t.Error("too little came up:", orders)
		}
	}
}

// same: both texts are of one game, unless one of them is too large.
func same(t *testing.T, a, b string) (ok bool) {
	t.Helper()
	x, f := conway.Canon(a)
	y, g := conway.Canon(b)
	if f.Code != api.OK || g.Code != api.OK {
		return false
	}
	if x != y {
		t.Errorf("%q %q: %q %q", a, b, x, y)
	}
	return true
}

// Games are a group, and their order goes with it.
func TestLaws(t *testing.T) {
	m := maker{Rand: rand.New(rand.NewSource(20))}
	held := [7]int{}
	for range 2500 {
		m.small = !m.small
		a, b, c := m.sum(m.Intn(3)), m.sum(m.Intn(3)), m.sum(m.Intn(2))
		canonical, f := conway.Canon(a)
		if f.Code != api.OK {
			continue
		}
		for i, ok := range []bool{
			len(canonical) < 300 && same(t, canonical, a),
			same(t, a+"-("+a+")", "0"),
			same(t, a+"+"+b, b+"+"+a),
			same(t, a+"+("+b+"+"+c+")", "("+a+"+"+b+")+"+c),
			same(t, "-("+a+"-("+b+"))", b+"-("+a+")"),
			same(t, a+"+"+b+"-("+b+")", a),
		} {
			if ok {
				held[i]++
			}
		}
		apart, f := conway.Compare(a+"-("+b+")", "0")
		if order, g := conway.Compare(a, b); f.Code == api.OK && g.Code == api.OK {
			held[6]++
			if order != apart || (order == api.Same) != (canonical == first(conway.Canon(b))) {
				t.Error(a, b, order, apart)
			}
		}
	}
	for _, n := range held {
		if n < 800 {
			t.Error("too little came up:", held)
		}
	}
}

func first(text string, _ api.Fault) string { return text }
