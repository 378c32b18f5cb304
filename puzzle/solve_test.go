package puzzle_test

import (
	"math/rand"
	"reflect"
	"slices"
	"testing"

	"parlour/api"
	"parlour/puzzle"
)

// solved is what Solve says; all of it are solutions, in order, none of them twice.
func solved(t *testing.T, s size, cells []int, most int) [][]int {
	t.Helper()
	l, e := puzzle.Solve(s.rows, s.columns, cells, most)
	if e != api.OK || len(l) > most {
		t.Fatal(s, cells, most, l, e)
	}
	for i, full := range l {
		if !s.solves(cells, full) || i > 0 && slices.Compare(l[i-1], full) >= 0 {
			t.Fatal(s, cells, most, l)
		}
	}
	return l
}

func solvesAs(t *testing.T, s size, cells []int, most int, want [][]int) {
	t.Helper()
	if l := solved(t, s, cells, most); len(l) != len(want) || len(l) > 0 && !reflect.DeepEqual(l, want) {
		t.Fatal(s, cells, most, l, "not", want)
	}
}

func TestSmallest(t *testing.T) {
	solvesAs(t, size{1, 1}, []int{0}, 1, [][]int{{1}})
	solvesAs(t, size{1, 1}, []int{1}, 20, [][]int{{1}})
	for _, s := range []size{{1, 2}, {2, 1}} {
		solvesAs(t, s, []int{0, 0, 0, 0}, 20, [][]int{{1, 2, 2, 1}, {2, 1, 1, 2}})
		solvesAs(t, s, []int{0, 0, 0, 0}, 1, [][]int{{1, 2, 2, 1}})
		solvesAs(t, s, []int{0, 0, 1, 0}, 2, [][]int{{2, 1, 1, 2}})
		solvesAs(t, s, []int{1, 0, 0, 2}, 2, nil)
	}
}

// TestBoxes: wide boxes and high ones are not the same.
func TestBoxes(t *testing.T) {
	wide := solved(t, size{2, 3}, make([]int, 36), 1)[0]
	high := solved(t, size{3, 2}, make([]int, 36), 1)[0]
	if !slices.Equal(wide[:12], []int{1, 2, 3, 4, 5, 6, 4, 5, 6, 1, 2, 3}) {
		t.Error(wide)
	}
	if !slices.Equal(high[:12], []int{1, 2, 3, 4, 5, 6, 3, 4, 5, 6, 1, 2}) {
		t.Error(high)
	}
	solvesAs(t, size{2, 3}, make([]int, 36), 20, size{2, 3}.plain(make([]int, 36), 20))
	solvesAs(t, size{3, 2}, make([]int, 36), 20, size{3, 2}.plain(make([]int, 36), 20))
}

// odometer goes over all lists of numbers from 0 to n.
func odometer(n, length int, see func([]int)) {
	l := make([]int, length)
	for {
		see(l)
		i := 0
		for i < length && l[i] == n {
			l[i] = 0
			i++
		}
		if i == length {
			return
		}
		l[i]++
	}
}

// among are the first ones of all that have a puzzle's numbers.
func among(all [][]int, cells []int, most int) [][]int {
	var l [][]int
	for _, full := range all {
		fits := true
		for i, x := range cells {
			fits = fits && (x == 0 || x == full[i])
		}
		if fits && len(l) < most {
			l = append(l, full)
		}
	}
	return l
}

// full is all solutions of the empty puzzle, in their order.
func full(s size) [][]int {
	var all [][]int
	if s.cells() <= 9 {
		odometer(s.n(), s.cells(), func(l []int) {
			if s.solves(make([]int, s.cells()), l) {
				all = append(all, slices.Clone(l))
			}
		})
		slices.SortFunc(all, slices.Compare)
		return all
	}
	return s.plain(make([]int, s.cells()), 1<<20)
}

func TestAllOfTheSmallSizes(t *testing.T) {
	for _, s := range []size{{1, 1}, {1, 2}, {2, 1}, {1, 3}, {3, 1}} {
		all := full(s)
		if want := map[int]int{1: 1, 2: 2, 3: 12}[s.n()]; len(all) != want {
			t.Fatal(s, len(all))
		}
		odometer(s.n(), s.cells(), func(cells []int) {
			solvesAs(t, s, cells, 20, among(all, cells, 20))
		})
	}
}

// TestMosts: what comes with a lesser most is the beginning of what comes with a
// greater one.
func TestMosts(t *testing.T) {
	rnd := rand.New(rand.NewSource(41))
	for _, s := range sizes() {
		for range 20 {
			cells := emptied(rnd, s.anyFull(rnd), s.cells()-rnd.Intn(s.n()+1))
			l := solved(t, s, cells, 20)
			for most := 1; most <= 20; most++ {
				solvesAs(t, s, cells, most, l[:min(most, len(l))])
			}
		}
	}
}

func TestFourByFour(t *testing.T) {
	s := size{2, 2}
	all := full(s)
	if len(all) != 288 {
		t.Fatal(len(all))
	}
	rnd := rand.New(rand.NewSource(4))
	counts := map[int]int{}
	for range 30000 {
		cells := make([]int, 16)
		for range rnd.Intn(9) {
			cells[rnd.Intn(16)] = 1 + rnd.Intn(4)
		}
		most := 1 + rnd.Intn(20)
		want := among(all, cells, most)
		counts[len(want)]++
		solvesAs(t, s, cells, most, want)
	}
	for n := 0; n <= 20; n++ {
		if counts[n] == 0 {
			t.Error("there were never", n, "solutions")
		}
	}
}

// TestPlain: a slow way says the same of puzzles that are not too hard for it.
func TestPlain(t *testing.T) {
	rnd := rand.New(rand.NewSource(29))
	for _, s := range sizes() {
		if s.n() < 4 {
			continue
		}
		counts := map[bool]int{}
		for range 300 {
			most := s.cells()
			if s.n() == 9 {
				most = 50
			}
			cells := emptied(rnd, s.anyFull(rnd), rnd.Intn(most))
			if rnd.Intn(3) == 0 {
				cells[rnd.Intn(len(cells))] = rnd.Intn(s.n() + 1)
			}
			want := s.plain(cells, 20)
			counts[len(want) > 1]++
			solvesAs(t, s, cells, 20, want)
		}
		if counts[true] < 20 || counts[false] < 20 {
			t.Error("too little came up:", s, counts)
		}
	}
}

// TestCounts: of harder ones a slow way tells how many solutions there are.
func TestCounts(t *testing.T) {
	rnd := rand.New(rand.NewSource(30))
	counts := map[int]int{}
	for range 600 {
		s := []size{{2, 3}, {3, 2}, {3, 3}}[rnd.Intn(3)]
		cells := emptied(rnd, s.anyFull(rnd), s.cells()*(60+rnd.Intn(15))/100)
		if rnd.Intn(2) == 0 {
			cells[rnd.Intn(len(cells))] = rnd.Intn(s.n() + 1)
		}
		l := solved(t, s, cells, 20)
		counts[min(2, len(l))]++
		if n := s.count(cells, 20); n != len(l) {
			t.Fatal(s, cells, len(l), "not", n)
		}
	}
	if counts[0] < 20 || counts[1] < 20 || counts[2] < 20 {
		t.Error("too little came up:", counts)
	}
}

func TestEmptyNineByNine(t *testing.T) {
	l := solved(t, size{3, 3}, make([]int, 81), 20)
	solvesAs(t, size{3, 3}, make([]int, 81), 20, size{3, 3}.plain(make([]int, 81), 20))
	if len(l) != 20 || !slices.Equal(l[0][:18], digits("123456789456789123")) {
		t.Error(l[0])
	}
}

// TestHardOnes: each of these is very slow by some plain way. The last ones have
// no solution, for a few cells that can not all be filled; in some of them a
// search that does not come to these soon goes through millions of others.
func TestHardOnes(t *testing.T) {
	s := size{3, 3}
	for _, text := range []string{
		"..............3.85..1.2.......5.7.....4...1...9.......5......73..2.1........4...9",
		"8..........36......7..9.2...5...7.......457.....1...3...1....68..85...1..9....4..",
		"9..8...........5............2..1...3.1.....6....4...7.7.86.........3.1..4.....2..",
		"....53...8......2..7..1.5..4....53...1..7...6..32...8..6.5....9..4....3......97..",
		".......12........3..23..4....18....5.6..7.8.......9.....85.....9...4.5..47...6...",
	} {
		if l := solved(t, s, digits(text), 20); len(l) != s.count(digits(text), 20) || len(l) == 0 {
			t.Error(text, l)
		}
	}
	solvesAs(t, s, digits("..............3.85..1.2.......5.7.....4...1...9.......5......73..2.1........4...9"), 20, [][]int{
		digits("987654321246173985351928746128537694634892157795461832519286473472319568863745219"),
	})
	for _, text := range []string{
		".....5.8....6.1.43..........1.5........1.6...3.......553.....61........4.........",
		"1....573....6.1...............5........1.69...3......55......61........4...4.....",
		"24...5......681...1.....3.....5........1.6............53....6.1.................3",
		".....5......6.1..3.........1975........1.6...3........5....3.61........4.........",
		"...7.5.3....6.1.28............5........1.......1..6..55......61........4.........",
		".....5......6.14..........6.9.5..8.....1.6.....5.......5.....619......7..........",
		"12345678.........9...............................................................",
	} {
		solvesAs(t, s, digits(text), 20, nil)
	}
}

// TestManyFewNumbers: a few numbers anywhere, mostly without a solution, are soon
// done with.
func TestManyFewNumbers(t *testing.T) {
	rnd := rand.New(rand.NewSource(81))
	some := 0
	for range 1000 {
		cells := make([]int, 81)
		for range 10 + rnd.Intn(12) {
			cells[rnd.Intn(81)] = 1 + rnd.Intn(9)
		}
		some += len(solved(t, size{3, 3}, cells, 2))
	}
	if some < 100 || some > 1900 {
		t.Error("too little came up:", some)
	}
}
