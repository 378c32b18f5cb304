package puzzle_test

import (
	"math"
	"math/rand"
	"slices"
	"testing"

	"parlour/api"
	"parlour/puzzle"
)

func makes(t *testing.T, s size, full, order, want []int) {
	t.Helper()
	if p, e := puzzle.Make(s.rows, s.columns, full, order); e != api.OK || !slices.Equal(p, want) {
		t.Fatal(s, full, order, p, e, "not", want)
	}
}

func TestMakeSmall(t *testing.T) {
	makes(t, size{1, 1}, []int{1}, nil, []int{1})
	makes(t, size{1, 1}, []int{1}, []int{0}, []int{0})
	makes(t, size{1, 1}, []int{1}, []int{0, 0, 0}, []int{0})
	for _, s := range []size{{1, 2}, {2, 1}} {
		makes(t, s, []int{1, 2, 2, 1}, []int{0, 1, 2, 3}, []int{0, 0, 0, 1})
		makes(t, s, []int{1, 2, 2, 1}, []int{3, 2, 1, 0}, []int{1, 0, 0, 0})
		makes(t, s, []int{2, 1, 1, 2}, []int{3, 0, 1}, []int{0, 0, 1, 0})
		makes(t, s, []int{2, 1, 1, 2}, []int{3, 0, 1, 2, 2, 3, 0}, []int{0, 0, 1, 0})
		makes(t, s, []int{2, 1, 1, 2}, []int{1}, []int{2, 0, 1, 2})
		makes(t, s, []int{2, 1, 1, 2}, []int{}, []int{2, 1, 1, 2})
	}
}

// anyOrder may leave cells out and have others twice.
func anyOrder(rnd *rand.Rand, cells int) []int {
	order := rnd.Perm(cells)
	switch rnd.Intn(3) {
	case 0:
		return order[:rnd.Intn(cells)]
	case 1:
		for range rnd.Intn(cells) {
			order = slices.Insert(order, rnd.Intn(len(order)), rnd.Intn(cells))
		}
	}
	return order
}

func TestMakeByItsWords(t *testing.T) {
	rnd := rand.New(rand.NewSource(14))
	for _, s := range sizes() {
		rounds := 4000 / s.cells() / s.n()
		for range rounds {
			full, order := s.anyFull(rnd), anyOrder(rnd, s.cells())
			makes(t, s, full, order, s.thinned(full, order))
		}
	}
	for _, s := range []size{{1, 3}, {3, 1}, {2, 2}} {
		for _, all := range full(s) {
			order := anyOrder(rnd, s.cells())
			makes(t, s, all, order, s.thinned(all, order))
		}
	}
}

// TestOneAnswer: what is made of all cells has just one solution, and not one
// number too many.
func TestOneAnswer(t *testing.T) {
	rnd := rand.New(rand.NewSource(15))
	for _, s := range sizes() {
		for range 15 {
			full := s.anyFull(rnd)
			p, e := puzzle.Make(s.rows, s.columns, full, rnd.Perm(s.cells()))
			if e != api.OK {
				t.Fatal(e)
			}
			solvesAs(t, s, p, 20, [][]int{full})
			for cell, x := range p {
				p[cell] = 0
				if l := solved(t, s, p, 2); x != 0 && len(l) != 2 {
					t.Fatal(s, p, cell, l)
				}
				p[cell] = x
			}
		}
	}
}

func makesNot(t *testing.T, s size, full, order []int, want api.Errno) {
	t.Helper()
	if p, e := puzzle.Make(s.rows, s.columns, full, order); e != want || p != nil {
		t.Error(s, full, order, p, e, "not", want)
	}
}

func TestNoSolution(t *testing.T) {
	rnd := rand.New(rand.NewSource(16))
	for _, s := range sizes() {
		full := s.anyFull(rnd)
		for cell, had := range full {
			for x := 0; x <= s.n(); x++ {
				full[cell] = x
				if x != had {
					makesNot(t, s, full, nil, api.ErrRange)
					makesNot(t, s, full, []int{cell}, api.ErrRange)
					makesNot(t, s, full, []int{-1}, api.ErrRange)
				}
			}
			full[cell] = s.n() + 1
			makesNot(t, s, full, nil, api.ErrArg)
			makesNot(t, s, full, []int{-1}, api.ErrArg)
			full[cell] = -1
			makesNot(t, s, full, []int{s.cells()}, api.ErrArg)
			full[cell] = had
		}
		makesNot(t, s, full[1:], []int{-1}, api.ErrArg)
		makesNot(t, s, make([]int, s.cells()), nil, api.ErrRange)
	}
}

// TestOneKindWrong: in each of these just the rows, the columns or the boxes are
// not right.
func TestOneKindWrong(t *testing.T) {
	rows := digits("1234" + "3412" + "1234" + "3412")
	boxes := digits("1234" + "2341" + "3412" + "4123")
	columns := digits("1144" + "2233" + "3322" + "4411")
	for _, full := range [][]int{rows, boxes, columns} {
		makesNot(t, size{2, 2}, full, nil, api.ErrRange)
		solvesAs(t, size{2, 2}, full, 20, nil)
	}
	makes(t, size{1, 3}, digits("123"+"231"+"312"), nil, digits("123"+"231"+"312"))
	// Which boxes there are tells whether it is a solution.
	wide := digits("123456" + "456123" + "231564" + "564231" + "312645" + "645312")
	makes(t, size{2, 3}, wide, nil, wide)
	makesNot(t, size{3, 2}, wide, nil, api.ErrRange)
	high := digits("123456" + "345612" + "561234" + "214365" + "436521" + "652143")
	makes(t, size{3, 2}, high, nil, high)
	makesNot(t, size{2, 3}, high, nil, api.ErrRange)
}

func TestNoCell(t *testing.T) {
	rnd := rand.New(rand.NewSource(17))
	for _, s := range sizes() {
		full := s.anyFull(rnd)
		for _, cell := range []int{-1, -2, s.cells(), s.cells() + 1, 100, 128, 256, -256, 1 << 32, 1<<32 + 1, math.MaxInt, math.MinInt} {
			for place := range s.cells() {
				order := rnd.Perm(s.cells())
				order[place] = cell
				makesNot(t, s, full, order, api.ErrRange)
			}
			makesNot(t, s, full, []int{cell}, api.ErrRange)
		}
	}
}

func TestLongOrder(t *testing.T) {
	rnd := rand.New(rand.NewSource(18))
	s := size{3, 3}
	full, order := s.anyFull(rnd), rnd.Perm(81)
	want := s.thinned(full, order)
	makes(t, s, full, slices.Repeat(order, 20000), want)
	makesNot(t, s, full, append(slices.Repeat(order, 20000), 81), api.ErrRange)
}
