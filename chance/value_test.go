package chance_test

import (
	"math/big"
	"math/rand"
	"reflect"
	"slices"
	"strconv"
	"sync"
	"testing"
	"unsafe"

	"parlour/api"
	"parlour/chance"
)

func name(n int) string { return strconv.Itoa(n) }

func worth(t *testing.T, tree api.Tree, want string, way ...int) {
	t.Helper()
	if s, w, e := chance.Value(tree); s != want || !slices.Equal(w, way) || e != api.OK {
		t.Errorf("%v: %q %v %v, not %q %v", tree, s, w, e, want, way)
	}
}

func TestLeaves(t *testing.T) {
	for n := -1000; n <= 1000; n++ {
		worth(t, leaf(n), name(n))
	}
}

func TestChoices(t *testing.T) {
	worth(t, most(leaf(7)), "7", 0)
	worth(t, least(leaf(-7)), "-7", 0)
	worth(t, most(leaf(1), leaf(3), leaf(2)), "3", 1)
	worth(t, least(leaf(2), leaf(3), leaf(1)), "1", 2)
	worth(t, most(leaf(-3), leaf(-1), leaf(-2)), "-1", 1)
	worth(t, least(leaf(-3), leaf(-1), leaf(-2)), "-3", 0)
	worth(t, most(leaf(-1), leaf(0), leaf(-1000)), "0", 1)
	worth(t, least(leaf(1000), leaf(0), leaf(1)), "0", 1)
	worth(t, most(leaf(-1000), leaf(-1000)), "-1000", 0)
	worth(t, least(leaf(1000), leaf(1000)), "1000", 0)
	// Of some the first.
	worth(t, most(leaf(1), leaf(2), leaf(2), leaf(1), leaf(2)), "2", 1)
	worth(t, least(leaf(2), leaf(1), leaf(2), leaf(1)), "1", 1)
	worth(t, most(leaves(20)...), "1", 0)
	worth(t, most(append(leaves(19), leaf(2))...), "2", 19)
	worth(t, least(append(leaves(19), leaf(-2))...), "-2", 19)
	// One within the other.
	worth(t, most(least(leaf(1), leaf(5)), least(leaf(4), leaf(3)), least(leaf(9), leaf(2))), "3", 1, 1)
	worth(t, least(most(leaf(1), leaf(5)), leaf(4), most(leaf(4), leaf(3))), "4", 1)
	worth(t, least(most(leaf(1), leaf(5)), most(leaf(3), leaf(4)), leaf(4)), "4", 1, 1)
	worth(t, most(most(most(leaf(-1), leaf(0)), leaf(0)), leaf(0)), "0", 0, 0, 1)
}

func TestLots(t *testing.T) {
	worth(t, lot([]int{1, 2}, leaf(1), leaf(2)), "5/3")
	worth(t, lot([]int{2, 1}, leaf(1), leaf(2)), "4/3")
	worth(t, lot([]int{1, 1}, leaf(1), leaf(2)), "3/2")
	worth(t, lot([]int{1, 1}, leaf(-1), leaf(-2)), "-3/2")
	worth(t, lot([]int{1, 1}, leaf(0), leaf(-1)), "-1/2")
	worth(t, lot([]int{1, 1}, leaf(0), leaf(1)), "1/2")
	worth(t, lot([]int{50, 50}, leaf(1), leaf(2)), "3/2")
	worth(t, lot([]int{3, 3}, leaf(1), leaf(3)), "2")
	worth(t, lot([]int{1, 1}, leaf(-1), leaf(1)), "0")
	worth(t, lot([]int{2, 1}, leaf(-1), leaf(2)), "0")
	worth(t, lot([]int{100, 1}, leaf(-1000), leaf(1000)), "-99000/101")
	worth(t, lot([]int{1, 100}, leaf(-1000), leaf(1000)), "99000/101")
	worth(t, lot([]int{100}, leaf(-1000)), "-1000")
	worth(t, lot([]int{99}, leaf(1000)), "1000")
	worth(t, lot(slices.Repeat([]int{100}, 20), leaves(20)...), "1")
	worth(t, lot(append(slices.Repeat([]int{100}, 19), 99), append(leaves(19), leaf(2))...), "2098/1999")
	// No way goes beyond one.
	x := lot([]int{1, 1, 1}, most(leaf(1), leaf(2)), least(leaf(0), leaf(-1)), lot([]int{1, 3}, leaf(0), leaf(1)))
	worth(t, x, "7/12")
	worth(t, most(x, leaf(0)), "7/12", 0)
	worth(t, least(leaf(1), most(leaf(0), x, x)), "7/12", 1, 1)
	worth(t, lot([]int{1}, most(leaf(1), leaf(2))), "2")
}

// Values that are the same are so however they come, and those that are hardly
// different are different.
func TestNearAndSame(t *testing.T) {
	third := lot([]int{2, 1}, leaf(0), leaf(1))
	worth(t, most(third, lot([]int{4, 2}, leaf(0), leaf(1)), lot([]int{1, 1, 1}, leaf(0), leaf(1), leaf(0))), "1/3", 0)
	worth(t, least(leaf(1), lot([]int{66, 33}, leaf(0), leaf(1)), third), "1/3", 1)
	worth(t, most(lot([]int{100, 100}, leaf(0), leaf(1)), lot([]int{1}, leaf(1))), "1", 1)
	worth(t, most(lot([]int{99, 100}, leaf(0), leaf(1)), lot([]int{98, 99}, leaf(0), leaf(1))), "99/197", 1)
	worth(t, least(lot([]int{98, 99}, leaf(0), leaf(1)), lot([]int{99, 100}, leaf(0), leaf(1))), "100/199", 1)
}

// diluted is n/101^k away from a number that hangs on k alone.
func diluted(n, k int) api.Tree {
	x := leaf(n)
	for range k {
		x = lot([]int{100, 1}, leaf(500), x)
	}
	return x
}

// What differs by far less than a float tells apart differs all the same.
func TestHardlyDifferent(t *testing.T) {
	for k := range 49 {
		d := new(big.Int).Exp(big.NewInt(101), big.NewInt(int64(k)), nil)
		of := func(n int64) string {
			x := new(big.Rat).SetFrac(big.NewInt(n-500), d)
			return x.Add(x, big.NewRat(500, 1)).RatString()
		}
		a, b := diluted(-1, k), diluted(1, k)
		worth(t, most(a, b, b, a), of(1), 1)
		worth(t, most(b, a, b), of(1), 0)
		worth(t, least(b, a, b, a), of(-1), 1)
		worth(t, least(a, b), of(-1), 0)
		worth(t, lot([]int{1, 1}, a, b), of(0))
	}
}

// exact says over again what a value is, with fractions of any size.
func exact(t api.Tree) *big.Rat {
	if t.Kind == api.Leaf {
		return big.NewRat(int64(t.N), 1)
	}
	if t.Kind == api.Chance {
		return mean(t)
	}
	best := exact(t.Kids[0])
	for _, kid := range t.Kids[1:] {
		if v := exact(kid); t.Kind == api.Most && v.Cmp(best) > 0 || t.Kind == api.Least && v.Cmp(best) < 0 {
			best = v
		}
	}
	return best
}

func mean(t api.Tree) *big.Rat {
	sum, all := new(big.Rat), new(big.Rat)
	for i, kid := range t.Kids {
		weight := big.NewRat(int64(t.Weights[i]), 1)
		all.Add(all, weight)
		sum.Add(sum, weight.Mul(weight, exact(kid)))
	}
	return sum.Quo(sum, all)
}

// path looks, from the root on, for the first Kid with the root's value.
func path(t api.Tree) []int {
	var way []int
	value := exact(t)
	for t.Kind == api.Most || t.Kind == api.Least {
		i := slices.IndexFunc(t.Kids, func(kid api.Tree) bool { return exact(kid).Cmp(value) == 0 })
		way, t = append(way, i), t.Kids[i]
	}
	return way
}

func holds(t *testing.T, tree api.Tree) {
	t.Helper()
	s, way, e := chance.Value(tree)
	if want := exact(tree).RatString(); s != want || e != api.OK {
		t.Fatalf("%v: %.200q %v, not %.200q", tree, s, e, want)
	}
	if want := path(tree); !slices.Equal(way, want) {
		t.Fatalf("%v: %v, not %v", tree, way, want)
	}
}

// grower makes trees by chance, with no more nodes than are left.
type grower struct {
	*rand.Rand
	left            int
	deep            bool
	numbers, weight int
}

// tree has taken its own node out of those that are left.
func (g *grower) tree(depth int) api.Tree {
	n := 1 + g.Intn(4)
	if g.deep {
		n = 1 + g.Intn(2)*g.Intn(2)
	} else if g.Intn(12) == 0 {
		n = 20
	}
	if n = min(n, g.left); depth == 1 || n == 0 || !g.deep && g.Intn(4) == 0 {
		return leaf(g.Intn(2*g.numbers+1) - g.numbers)
	}
	g.left -= n
	x := api.Tree{Kind: []int{api.Most, api.Least, api.Chance}[g.Intn(3)]}
	for range n {
		x.Kids = append(x.Kids, g.tree(depth-1))
		if x.Kind == api.Chance {
			x.Weights = append(x.Weights, 1+g.Intn(g.weight))
		}
	}
	return x
}

func TestAnyTree(t *testing.T) {
	rnd := rand.New(rand.NewSource(24))
	for i := range 4000 {
		size := 1 + rnd.Intn(60)
		if i%100 == 0 {
			size = 2000
		}
		g := grower{Rand: rnd, left: size - 1, deep: rnd.Intn(3) == 0, numbers: []int{1, 2, 10, 1000}[rnd.Intn(4)], weight: []int{1, 2, 3, 100}[rnd.Intn(4)]}
		holds(t, g.tree(1+rnd.Intn(50)))
	}
}

// primes are totals of two Weights that have nothing in common.
func primes() []int {
	var all []int
	for n := 101; n < 200; n++ {
		if big.NewInt(int64(n)).ProbablyPrime(0) {
			all = append(all, n)
		}
	}
	return all
}

// lots are nothing but Chance down to its leaves, as many as there may be.
func lots(leaves int, next func() int) api.Tree {
	if leaves == 1 {
		return leaf(next()%2001 - 1000)
	}
	total := primes()[next()%len(primes())]
	weight := total - 100 + next()%(201-total)
	return lot([]int{weight, total - weight}, lots(leaves/2, next), lots(leaves-leaves/2, next))
}

func TestLongFractions(t *testing.T) {
	rnd := rand.New(rand.NewSource(42))
	next := func() int { return rnd.Intn(1 << 20) }
	for _, leaves := range []int{2, 3, 10, 100, 998} {
		x := lots(leaves, next)
		holds(t, x)
		holds(t, most(leaf(-1000), x))
		holds(t, least(x, leaf(1000)))
	}
	// All the way down, with as many digits as there can be beside it.
	x := leaf(-1000)
	for i := range 48 {
		weights := slices.Repeat([]int{100}, 20)
		weights[i%20] = 1 + 2*i
		kids := leaves(20)
		for k := range kids {
			kids[k] = leaf(k*i - 500)
		}
		kids[(i+7)%20] = x
		x = lot(weights, kids...)
	}
	holds(t, most(x, leaf(-1000)))
	// Weights that come to nothing, in as many nodes as there may be.
	var kids []api.Tree
	for range 20 {
		kids = append(kids, most(within(lot([]int{100}, lot([]int{97}, leaf(3))), 40), within(leaf(2), 40)))
	}
	holds(t, lot(ones(20), kids...))
}

// inRoom is a tree whose lists have room behind them that is in use.
func inRoom() (tree api.Tree, weights []int, kids, more []api.Tree) {
	weights = []int{1, 2, 77, 78}
	kids = []api.Tree{leaf(3), leaf(4), leaf(55), leaf(56)}
	more = []api.Tree{leaf(1), {Kind: api.Chance, Weights: weights[:2], Kids: kids[:2]}, least(leaf(9), leaf(8)), leaf(57)}
	return api.Tree{Kind: api.Most, Kids: more[:3]}, weights, kids, more
}

func TestTreesStay(t *testing.T) {
	tree, weights, kids, more := inRoom()
	old, oldWeights, oldKids, oldMore := inRoom()
	chance.Check(tree)
	worth(t, tree, "8", 2, 1)
	_, first, _ := chance.Value(tree)
	_, second, _ := chance.Value(tree)
	// What is done with an answer is seen nowhere else.
	first = first[:cap(first)]
	for i := range first {
		first[i] = -7
	}
	if !slices.Equal(second, []int{2, 1}) {
		t.Error(second)
	}
	worth(t, tree, "8", 2, 1)
	if !reflect.DeepEqual(tree, old) || !slices.Equal(weights, oldWeights) || !reflect.DeepEqual(kids, oldKids) || !reflect.DeepEqual(more, oldMore) {
		t.Error(tree, weights, kids, more)
	}
	from, to := uintptr(unsafe.Pointer(unsafe.SliceData(weights))), uintptr(unsafe.Pointer(unsafe.SliceData(second)))
	if from < to+uintptr(cap(second))*unsafe.Sizeof(0) && to < from+uintptr(cap(weights))*unsafe.Sizeof(0) {
		t.Error("the way lies in the weights")
	}
	// What was handed in is not kept: what is done with it changes no answer.
	_, way, _ := chance.Value(tree)
	weights[0], kids[0], more[2] = 100, leaf(1000), leaf(-1)
	if !slices.Equal(way, []int{2, 1}) {
		t.Error(way)
	}
	worth(t, tree, "16668/17", 1)
}

func TestCallsAtTheSameTime(t *testing.T) {
	tree, _, _, _ := inRoom()
	trees := []api.Tree{tree, leaf(-5), diluted(7, 40), leaf(1001), within(leaf(1), 50), most(diluted(1, 9), diluted(2, 9))}
	type answer struct {
		text string
		way  []int
		err  api.Errno
	}
	value := func(t api.Tree) answer {
		s, way, e := chance.Value(t)
		return answer{s, way, e}
	}
	var want []answer
	for _, x := range trees {
		want = append(want, value(x))
	}
	var group sync.WaitGroup
	for range 8 {
		group.Go(func() {
			for i := range 200 {
				k := i % len(trees)
				if got := value(trees[k]); !reflect.DeepEqual(got, want[k]) || chance.Check(trees[k]) != want[k].err {
					t.Error(k, got)
				}
			}
		})
	}
	group.Wait()
}
