package chance_test

import (
	"math"
	"slices"
	"testing"

	"parlour/api"
	"parlour/chance"
)

func leaf(n int) api.Tree { return api.Tree{Kind: api.Leaf, N: n} }

func most(kids ...api.Tree) api.Tree { return api.Tree{Kind: api.Most, Kids: kids} }

func least(kids ...api.Tree) api.Tree { return api.Tree{Kind: api.Least, Kids: kids} }

func lot(weights []int, kids ...api.Tree) api.Tree {
	return api.Tree{Kind: api.Chance, Weights: weights, Kids: kids}
}

// leaves are so many.
func leaves(n int) []api.Tree { return slices.Repeat([]api.Tree{leaf(1)}, n) }

// ones are so many.
func ones(n int) []int { return slices.Repeat([]int{1}, n) }

// within has a tree so many nodes deep within others, of any kind.
func within(t api.Tree, depth int) api.Tree {
	for i := range depth {
		switch i % 3 {
		case 0:
			t = most(t)
		case 1:
			t = least(t)
		case 2:
			t = lot([]int{7}, t)
		}
	}
	return t
}

func checks(t *testing.T, name string, tree api.Tree, want api.Errno) {
	t.Helper()
	if e := chance.Check(tree); e != want {
		t.Error(name, "Check:", e, "not", want)
	}
	s, way, e := chance.Value(tree)
	if e != want {
		t.Error(name, "Value:", e, "not", want)
	}
	if want != api.OK && (s != "" || way != nil) {
		t.Error(name, "Value:", s, way, "beside", want)
	}
	if want == api.OK && s == "" {
		t.Error(name, "Value: no text")
	}
}

func largeIf(is bool) api.Errno {
	if is {
		return api.ErrLarge
	}
	return api.OK
}

// nodes are right and wrong ones, without anything wrong further in.
func nodes() (right, wrong map[string]api.Tree) {
	right = map[string]api.Tree{
		"leaf": leaf(0), "the least leaf": leaf(-1000), "the greatest leaf": leaf(1000),
		"leaf with empty lists": {Kind: api.Leaf, N: 5, Weights: []int{}, Kids: []api.Tree{}},
		"most":                  most(leaf(1)), "least": least(leaf(1)), "most of 20": most(leaves(20)...), "least of 20": least(leaves(20)...),
		"most with an empty list": {Kind: api.Most, Weights: []int{}, Kids: leaves(2)},
		"chance":                  lot([]int{1}, leaf(1)), "chance of 20": lot(ones(20), leaves(20)...), "the greatest weights": lot(slices.Repeat([]int{100}, 20), leaves(20)...),
	}
	wrong = map[string]api.Tree{
		"nothing": {}, "no kind": {N: 3}, "no kind with kids": {Kids: leaves(2)},
		"leaf below": leaf(-1001), "leaf above": leaf(1001), "leaf far below": leaf(math.MinInt), "leaf far above": leaf(math.MaxInt), "leaf of 33 bits": leaf(1 << 32),
		"leaf with a kid": {Kind: api.Leaf, N: 1, Kids: leaves(1)}, "leaf with a weight": {Kind: api.Leaf, N: 1, Weights: ones(1)}, "leaf with a weight 0": {Kind: api.Leaf, Weights: []int{0}}, "leaf like a chance": {Kind: api.Leaf, Weights: ones(2), Kids: leaves(2)},
		"chance of nothing": lot(nil), "chance without weights": lot(nil, leaf(1)), "chance without kids": lot(ones(1)), "chance of 21": lot(ones(21), leaves(21)...), "chance of many": lot(ones(3000), leaves(3000)...),
		"too few weights": lot(ones(2), leaves(3)...), "too many weights": lot(ones(3), leaves(2)...), "20 weights of 21": lot(ones(20), leaves(21)...), "21 weights of 20": lot(ones(21), leaves(20)...),
		"chance with a number": {Kind: api.Chance, N: 1, Weights: ones(1), Kids: leaves(1)}, "chance with a number below 0": {Kind: api.Chance, N: -1, Weights: ones(1), Kids: leaves(1)},
	}
	for _, kind := range []int{-1, 0, 5, 6, math.MinInt, math.MaxInt, 1<<32 + api.Leaf, 1<<32 + api.Most} {
		wrong["leaf of kind "+name(kind)] = api.Tree{Kind: kind}
		wrong["choice of kind "+name(kind)] = api.Tree{Kind: kind, Kids: leaves(2)}
		wrong["chance of kind "+name(kind)] = api.Tree{Kind: kind, Weights: ones(2), Kids: leaves(2)}
	}
	for _, kind := range []int{api.Most, api.Least} {
		for what, x := range map[string]api.Tree{
			"of nothing": {}, "of an empty list": {Kids: []api.Tree{}}, "of 21": {Kids: leaves(21)}, "of many": {Kids: leaves(3000)},
			"with a number": {N: 1, Kids: leaves(2)}, "with a number below 0": {N: -1, Kids: leaves(2)}, "with a great number": {N: math.MinInt, Kids: leaves(2)},
			"with a weight": {Weights: ones(1), Kids: leaves(2)}, "with weights": {Weights: ones(2), Kids: leaves(2)}, "with a weight 0": {Weights: []int{0}, Kids: leaves(1)},
		} {
			x.Kind = kind
			wrong["kind "+name(kind)+" "+what] = x
		}
	}
	for _, weight := range []int{math.MinInt, -1, 0, 101, 1 << 32, 1<<32 + 1, math.MaxInt} {
		for _, place := range []int{0, 1, 19} {
			weights := ones(20)
			weights[place] = weight
			wrong["weight "+name(weight)+" at "+name(place)] = lot(weights, leaves(20)...)
		}
		wrong["the weight "+name(weight)] = lot([]int{weight}, leaf(1))
	}
	return right, wrong
}

func TestNodes(t *testing.T) {
	right, wrong := nodes()
	for name, x := range right {
		checks(t, name, x, api.OK)
		for _, depth := range []int{1, 2, 3, 48} {
			checks(t, name+" further in", within(x, depth), api.OK)
		}
	}
	for name, x := range wrong {
		checks(t, name, x, api.ErrArg)
		// However deep it lies.
		for _, depth := range []int{1, 2, 3, 49, 50, 1000} {
			checks(t, name+" further in", within(x, depth), api.ErrArg)
		}
		// Whichever Kid it is.
		for place := range 20 {
			kids := leaves(20)
			kids[place] = x
			checks(t, name+" among 20", most(kids...), api.ErrArg)
			checks(t, name+" among 20", least(kids...), api.ErrArg)
			checks(t, name+" among 20", lot(ones(20), kids...), api.ErrArg)
		}
	}
}

// sized has so many nodes, of all kinds, 4 deep if there are enough of them.
func sized(nodes int) api.Tree {
	var kids []api.Tree
	nodes--
	for nodes > 0 {
		n := min(nodes, 1+20*21)
		nodes -= n
		kids = append(kids, part(n))
	}
	return most(kids...)
}

func part(nodes int) api.Tree {
	if nodes == 1 {
		return leaf(3)
	}
	var kids []api.Tree
	nodes--
	for nodes > 0 {
		n := min(nodes, 21)
		nodes -= n
		if n == 1 {
			kids = append(kids, leaf(4))
		} else {
			kids = append(kids, lot(ones(n-1), leaves(n-1)...))
		}
	}
	return least(kids...)
}

func count(t api.Tree) int {
	n := 1
	for _, kid := range t.Kids {
		n += count(kid)
	}
	return n
}

func TestHowMany(t *testing.T) {
	_, wrong := nodes()
	for _, n := range []int{2, 21, 22, 1998, 1999, 2000, 2001, 2002, 4000, 8000} {
		x := sized(n)
		if count(x) != n {
			t.Fatal(n, count(x))
		}
		checks(t, "nodes", x, largeIf(n > 2000))
		checks(t, "one more", least(x), largeIf(n+1 > 2000))
		checks(t, "one more", lot([]int{1}, x), largeIf(n+1 > 2000))
		for name, y := range wrong {
			checks(t, name+" ahead of many", most(y, x), api.ErrArg)
			checks(t, name+" behind many", most(x, y), api.ErrArg)
			checks(t, name+" behind many", most(x, x, x, most(x, y)), api.ErrArg)
		}
	}
	// 2000 nodes are not too many where they are 50 deep.
	checks(t, "both", within(sized(2000-46), 46), api.OK)
	checks(t, "both and one more", within(sized(2001-46), 46), api.ErrLarge)
	checks(t, "both and one deeper", within(sized(2000-47), 47), api.ErrLarge)
}

func TestHowDeep(t *testing.T) {
	for _, depth := range []int{1, 2, 49, 50, 51, 52, 100, 2001, 1 << 16} {
		want := largeIf(depth > 50)
		x := within(leaf(2), depth-1)
		checks(t, "depth", x, want)
		if depth > 1 {
			y := within(most(leaf(1), leaf(2)), depth-2)
			checks(t, "two as deep", y, want)
			y = within(lot([]int{1, 2}, leaf(1), leaf(2)), depth-2)
			checks(t, "two as deep", y, want)
		}
		if depth <= 50 {
			for place := range 20 {
				kids := leaves(20)
				kids[place] = x
				checks(t, "one of them as deep", most(kids...), largeIf(depth+1 > 50))
				checks(t, "one of them as deep", lot(ones(20), kids...), largeIf(depth+1 > 50))
			}
		}
	}
}

// Few lists that many nodes share are very many nodes; what is wrong with one is
// told all the same.
func TestSharedLists(t *testing.T) {
	x, nodes := leaf(1), 1
	for depth := 2; depth <= 60; depth++ {
		n := 2 + depth%19
		x, nodes = most(slices.Repeat([]api.Tree{x}, n)...), min(1+n*nodes, 1<<20)
		checks(t, "shared", x, largeIf(nodes > 2000))
		checks(t, "beside a wrong one", least(x, leaf(1001)), api.ErrArg)
		checks(t, "a wrong one beside it", least(leaf(1001), x), api.ErrArg)
	}
	// The same room, of which more is seen from elsewhere.
	room := append(leaves(3), leaf(-1001))
	short, long := most(room[:3]...), most(room[:4]...)
	checks(t, "short", most(short, short), api.OK)
	checks(t, "short ahead of long", most(short, long), api.ErrArg)
	checks(t, "long ahead of short", most(long, short), api.ErrArg)
	checks(t, "beside many", most(short, x, short, long), api.ErrArg)
	checks(t, "beside many", most(long, x, short), api.ErrArg)
}

func TestTreesWithoutEnd(t *testing.T) {
	for n := 1; n <= 20; n++ {
		for place := range n {
			kids := leaves(n)
			kids[place] = api.Tree{Kind: api.Least, Kids: kids}
			checks(t, "round", most(kids...), api.ErrLarge)
			checks(t, "round", lot(ones(n), kids...), api.ErrLarge)
			for i := range n {
				if i != place {
					kids[i] = leaf(2000)
					checks(t, "round, and wrong", most(kids...), api.ErrArg)
					kids[i] = leaf(2)
				}
			}
			for i := range n {
				kids[i] = api.Tree{Kind: api.Chance, Weights: ones(n), Kids: kids}
			}
			checks(t, "all round", kids[0], api.ErrLarge)
			checks(t, "all round beside a wrong one", most(kids[0], leaf(-1001)), api.ErrArg)
			kids[place].Weights = ones(n + 1)
			checks(t, "all round, and wrong", most(kids[0]), api.ErrArg)
		}
	}
}
