package tourney_test

import (
	"math"
	"math/rand"
	"slices"
	"testing"

	"parlour/api"
	"parlour/tourney"
)

// field is n players, and who can be paired with whom.
type field struct {
	n   int
	can [][]bool
}

func newField(n int, twos ...[2]int) field {
	f := field{n: n, can: make([][]bool, n)}
	for i := range f.can {
		f.can[i] = make([]bool, n)
	}
	for _, two := range twos {
		f.link(two[0], two[1])
	}
	return f
}

func (f field) link(a, b int) { f.can[a][b], f.can[b][a] = a != b, a != b }

// barred are all who can not be paired.
func (f field) barred() [][2]int {
	var l [][2]int
	for i := range f.n {
		for j := range i {
			if !f.can[i][j] {
				l = append(l, [2]int{j, i})
			}
		}
	}
	return l
}

// renamed has the players' numbers in any order.
func (f field) renamed(rnd *rand.Rand) field {
	names, g := rnd.Perm(f.n), newField(f.n)
	for i := range f.n {
		for j := range i {
			if f.can[i][j] {
				g.link(names[i], names[j])
			}
		}
	}
	return g
}

// arePairs is straight from P26's words.
func (f field) arePairs(t *testing.T, pairs [][2]int) {
	t.Helper()
	seen := make([]int, f.n)
	for i, p := range pairs {
		if p[0] < 0 || p[1] >= f.n || p[0] >= p[1] || !f.can[p[0]][p[1]] || i > 0 && p[0] <= pairs[i-1][0] {
			t.Fatal(f.n, f.barred(), pairs)
		}
		seen[p[0]]++
		seen[p[1]]++
	}
	for _, n := range seen {
		if n != 1 {
			t.Fatal(f.n, f.barred(), pairs)
		}
	}
}

// odd is how many groups have an odd number of players if some are taken away.
func (f field) odd(away []int) int {
	gone := make([]bool, f.n)
	for _, i := range away {
		gone[i] = true
	}
	var size func(i int) int
	size = func(i int) int {
		gone[i] = true
		all := 1
		for j := range f.n {
			if f.can[i][j] && !gone[j] {
				all += size(j)
			}
		}
		return all
	}
	count := 0
	for i := range f.n {
		if !gone[i] {
			count += size(i) % 2
		}
	}
	return count
}

func (f field) isBarrier(t *testing.T, l []int) {
	t.Helper()
	for i, x := range l {
		if x < 0 || x >= f.n || i > 0 && x <= l[i-1] {
			t.Fatal(f.n, f.barred(), l)
		}
	}
	if f.odd(l) <= len(l) {
		t.Fatal(f.n, f.barred(), l, f.odd(l))
	}
}

// tells: the answer shows by itself that it is right, for where there are pairs
// there is no barrier. Whether there are pairs is told.
func tells(t *testing.T, f field, barred [][2]int) bool {
	t.Helper()
	pairs, barrier, e := tourney.Pair(f.n, barred)
	if e != api.OK || len(pairs) > 0 && len(barrier) > 0 {
		t.Fatal(f.n, barred, pairs, barrier, e)
	}
	if len(pairs) > 0 || f.n == 0 {
		f.arePairs(t, pairs)
		return true
	}
	f.isBarrier(t, barrier)
	return false
}

func pairs(t *testing.T, f field, want bool) {
	t.Helper()
	if is := tells(t, f, f.barred()); is != want {
		t.Error(f.n, f.barred(), is)
	}
}

func refused(t *testing.T, n int, barred [][2]int) {
	t.Helper()
	if p, b, e := tourney.Pair(n, barred); p != nil || b != nil || e != api.ErrArg {
		t.Error(n, barred, p, b, e)
	}
}

func TestSizesOfFields(t *testing.T) {
	for n := -70; n <= 200; n++ {
		if n < 0 || n > 60 || n%2 != 0 {
			refused(t, n, nil)
			refused(t, n, [][2]int{})
			refused(t, n, [][2]int{{0, 1}})
			continue
		}
		full := newField(n)
		for i := range n {
			for j := range i {
				full.link(i, j)
			}
		}
		pairs(t, full, true)
		pairs(t, newField(n), n == 0)
	}
	for _, n := range []int{math.MinInt, math.MinInt + 1, math.MaxInt, math.MaxInt - 1, 1 << 32, 1<<32 + 2, -1 << 32, -2} {
		refused(t, n, nil)
	}
}

func TestWrongBars(t *testing.T) {
	for _, n := range []int{0, 2, 4, 58, 60} {
		wrong := [][2]int{{-1, 0}, {-1, 1}, {n, 0}, {n + 1, 0}, {1, n}, {n, n}, {-1, -1}, {0, 0}, {1, 1}, {n - 1, n - 1}, {math.MinInt, 1}, {math.MaxInt, 1}, {1 << 32, 1}, {0, 1<<32 + 1}, {0, math.MinInt}, {256, 1}}
		if n == 0 {
			wrong = append(wrong, [2]int{0, 1}, [2]int{1, 0})
		}
		for _, two := range wrong {
			turned := [2]int{two[1], two[0]}
			for _, x := range [][2]int{two, turned} {
				refused(t, n, [][2]int{x})
				if n == 0 {
					continue
				}
				refused(t, n, [][2]int{x, {0, 1}})
				refused(t, n, [][2]int{{0, 1}, {1, 0}, x})
				refused(t, n, append(newField(n).barred(), x))
				refused(t, n, append(slices.Repeat([][2]int{{0, n - 1}}, 100000), x))
			}
		}
	}
}

func TestFewPlayers(t *testing.T) {
	answers := func(n int, barred, pairs [][2]int, barrier []int) {
		t.Helper()
		p, b, e := tourney.Pair(n, barred)
		if e != api.OK || !slices.Equal(p, pairs) || !slices.Equal(b, barrier) {
			t.Error(n, barred, p, b, e, "not", pairs, barrier)
		}
	}
	answers(0, nil, nil, nil)
	answers(2, nil, [][2]int{{0, 1}}, nil)
	// A barrier may be nobody: two groups, each of one player.
	answers(2, [][2]int{{0, 1}}, nil, nil)
	answers(2, [][2]int{{1, 0}}, nil, nil)
	answers(2, [][2]int{{1, 0}, {0, 1}, {1, 0}}, nil, nil)
	answers(4, [][2]int{{0, 1}, {3, 2}, {0, 2}}, [][2]int{{0, 3}, {1, 2}}, nil)
	answers(4, [][2]int{{0, 1}, {0, 3}, {2, 1}, {2, 3}}, [][2]int{{0, 2}, {1, 3}}, nil)
	// All others want one alone.
	for want := range 4 {
		var barred [][2]int
		for i := range 4 {
			for j := range 4 {
				if i != j && i != want && j != want {
					barred = append(barred, [2]int{i, j})
				}
			}
		}
		answers(4, barred, nil, []int{want})
	}
}

// Every field of up to six players.
func TestEverySmallField(t *testing.T) {
	for n := 0; n <= 6; n += 2 {
		twos := newField(n).barred()
		good := 0
		for set := range 1 << len(twos) {
			f := newField(n)
			for i, two := range twos {
				if set>>i&1 == 1 {
					f.link(two[0], two[1])
				}
			}
			if tells(t, f, f.barred()) {
				good++
			}
		}
		if want := slow(n); good != want {
			t.Error(n, good, "of", 1<<len(twos), "not", want)
		}
	}
}

// slow counts the fields of n players that have pairs, by trying all ways.
func slow(n int) int {
	twos, good := newField(n).barred(), 0
	var hold func(set, left int) bool
	hold = func(set, left int) bool {
		if left == 0 {
			return true
		}
		for i, two := range twos {
			both := 1<<two[0] | 1<<two[1]
			if two[0] == lowest(left) && set>>i&1 == 1 && left&both == both && hold(set, left&^both) {
				return true
			}
		}
		return false
	}
	for set := range 1 << len(twos) {
		if hold(set, 1<<n-1) {
			good++
		}
	}
	return good
}

func lowest(set int) int {
	i := 0
	for set>>i&1 == 0 {
		i++
	}
	return i
}

// ring links so many players, from first on, each with the next one.
func (f field) ring(first, size int) {
	for i := range size {
		f.link(first+i, first+(i+1)%size)
	}
}

// Rings of an odd number, one behind the other, on a way from one end to the other:
// both ends can be reached only round the rings.
func TestRingsInARow(t *testing.T) {
	rnd := rand.New(rand.NewSource(26))
	for range 3000 {
		f, last := newField(60), 0
		at := 1
		for at+8 < 60 {
			size := 3 + 2*rnd.Intn(3)
			f.ring(at, size)
			f.link(last, at)
			last = at + rnd.Intn(size)
			at += size
		}
		for ; at < 60; at++ {
			f.link(last, at)
			last = at
		}
		is := tells(t, f, f.barred())
		// Other names change nothing of it.
		pairs(t, f.renamed(rnd), is)
	}
}

// Odd groups that only a few players keep together, as many groups as these are, or
// two more; all others are in one group.
func TestBarriers(t *testing.T) {
	rnd := rand.New(rand.NewSource(13))
	sizes := map[int]int{}
	for range 6000 {
		away := rnd.Intn(20)
		groups := away + 2*rnd.Intn(2)
		n := away + groups
		f := newField(60)
		at := away
		for i := range groups {
			size := 1
			if spare := 60 - n; spare >= 2 {
				size += 2 * rnd.Intn(min(spare/2, 4)+1)
			}
			n += size - 1
			for a := at; a < at+size; a++ {
				for b := at; b < a; b++ {
					f.link(a, b)
				}
			}
			for k := range away {
				if k == i%max(1, away) || rnd.Intn(3) == 0 {
					f.link(k, at+rnd.Intn(size))
				}
			}
			at += size
		}
		for a := range away {
			for b := range a {
				if rnd.Intn(2) == 0 {
					f.link(a, b)
				}
			}
		}
		for a := at; a < 60; a++ {
			for b := at; b < a; b++ {
				f.link(a, b)
			}
			for k := range away {
				f.link(a, k)
			}
		}
		pairs(t, f.renamed(rnd), groups == away)
		sizes[away]++
	}
	for away := range 20 {
		if sizes[away] < 100 {
			t.Error("too few barriers of", away, sizes)
		}
	}
}

// anyField has links by chance, about so many of each player's.
func anyField(rnd *rand.Rand, n int, links float64) field {
	f := newField(n)
	for i := range n {
		for j := range i {
			if rnd.Float64()*float64(n) < links {
				f.link(i, j)
			}
		}
	}
	return f
}

func TestAnyField(t *testing.T) {
	rnd := rand.New(rand.NewSource(60))
	kinds := map[bool]int{}
	for range 30000 {
		n := 2 + 2*rnd.Intn(30)
		f := anyField(rnd, n, 1+rnd.Float64()*5)
		kinds[tells(t, f, f.barred())]++
		// Pairs that are there are found, whatever else there is.
		names := rnd.Perm(n)
		for i := 0; i < n; i += 2 {
			f.link(names[i], names[i+1])
		}
		pairs(t, f, true)
	}
	if kinds[true] < 3000 || kinds[false] < 3000 {
		t.Error("too little came up:", kinds)
	}
}

// Triangles that hang together by single players, and few other links.
func TestTriangles(t *testing.T) {
	rnd := rand.New(rand.NewSource(3))
	kinds := map[bool]int{}
	for range 20000 {
		n := 4 + 2*rnd.Intn(29)
		f := newField(n)
		for at := 1; at < n; {
			before := rnd.Intn(at)
			f.link(before, at)
			if at+1 < n && rnd.Intn(5) > 0 {
				f.link(before, at+1)
				f.link(at, at+1)
				at++
			}
			at++
		}
		for range rnd.Intn(4) {
			f.link(rnd.Intn(n), rnd.Intn(n))
		}
		f = f.renamed(rnd)
		kinds[tells(t, f, f.barred())]++
	}
	if kinds[true] < 1000 || kinds[false] < 1000 {
		t.Error("too little came up:", kinds)
	}
}

func TestPetersen(t *testing.T) {
	rnd := rand.New(rand.NewSource(10))
	f := newField(10)
	f.ring(0, 5)
	for i := range 5 {
		f.link(i, 5+i)
		f.link(5+i, 5+(i+2)%5)
	}
	for range 500 {
		pairs(t, f.renamed(rnd), true)
	}
	// Three groups of five players each, with one who keeps them together.
	g := newField(16)
	for k := range 3 {
		for i := range 5 {
			for j := range i {
				g.link(1+5*k+i, 1+5*k+j)
			}
		}
		g.link(0, 1+5*k)
	}
	for range 500 {
		pairs(t, g.renamed(rnd), false)
	}
	if p, b, e := tourney.Pair(16, g.barred()); p != nil || !slices.Equal(b, []int{0}) || e != api.OK {
		t.Error(p, b, e)
	}
}

// A bar is the same in either order, at any place, and told again.
func TestBarsInAnyOrder(t *testing.T) {
	rnd := rand.New(rand.NewSource(2))
	for range 3000 {
		f := anyField(rnd, 2+2*rnd.Intn(30), 1+rnd.Float64()*5)
		barred := f.barred()
		is := tells(t, f, barred)
		for i := range barred {
			if rnd.Intn(2) == 0 {
				barred[i] = [2]int{barred[i][1], barred[i][0]}
			}
			if rnd.Intn(3) == 0 {
				k := rnd.Intn(i + 1)
				barred = append(barred, barred[k], [2]int{barred[k][1], barred[k][0]})
			}
		}
		rnd.Shuffle(len(barred), func(i, j int) { barred[i], barred[j] = barred[j], barred[i] })
		if tells(t, f, barred) != is {
			t.Fatal(f.n, barred)
		}
	}
	// Many bars that say one thing.
	if p, b, e := tourney.Pair(4, slices.Repeat([][2]int{{1, 0}, {3, 1}}, 500000)); e != api.OK || b != nil || !slices.Equal(p, [][2]int{{0, 3}, {1, 2}}) {
		t.Error(p, b, e)
	}
}
