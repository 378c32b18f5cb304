package puzzle_test

import (
	"math"
	"slices"
	"strconv"
	"testing"

	"parlour/api"
	"parlour/puzzle"
)

func argIf(is bool) api.Errno {
	if is {
		return api.ErrArg
	}
	return api.OK
}

// checks: Check and Solve tell the error, and nothing beside it; Make tells
// ErrArg where they do.
func checks(t *testing.T, rows, columns int, cells []int, want api.Errno) {
	t.Helper()
	name := strconv.Itoa(rows) + " by " + strconv.Itoa(columns) + ", " + strconv.Itoa(len(cells)) + " cells:"
	if e := puzzle.Check(rows, columns, cells); e != want {
		t.Error(name, "Check:", e, "not", want)
	}
	for _, most := range []int{1, 20} {
		if l, e := puzzle.Solve(rows, columns, cells, most); e != want || e != api.OK && l != nil {
			t.Error(name, "Solve:", l, e, "not", want)
		}
	}
	// What else is wrong is told later.
	if l, e := puzzle.Solve(rows, columns, cells, 0); want != api.OK && (e != want || l != nil) {
		t.Error(name, "Solve:", l, e, "not", want)
	}
	p, e := puzzle.Make(rows, columns, cells, []int{0, -1})
	if (e == api.ErrArg) != (want == api.ErrArg) || e != api.OK && p != nil {
		t.Error(name, "Make:", p, e, "beside", want)
	}
}

func TestSizes(t *testing.T) {
	for rows := -4; rows <= 10; rows++ {
		for columns := -4; columns <= 10; columns++ {
			n := rows * columns
			wrong := rows < 1 || rows > 3 || columns < 1 || columns > 3
			checks(t, rows, columns, make([]int, n*n), argIf(wrong))
		}
	}
	for _, huge := range []int{math.MaxInt, math.MinInt, math.MinInt + 1, 1 << 32, 1<<32 + 1, -1 << 32, 1 << 62, 256, 257} {
		for _, other := range []int{-1, 0, 1, 2, 3, huge} {
			for _, cells := range []int{0, 1, 4, 81} {
				checks(t, huge, other, make([]int, cells), api.ErrArg)
				checks(t, other, huge, make([]int, cells), api.ErrArg)
			}
		}
	}
}

func TestLengths(t *testing.T) {
	room := make([]int, 200)
	for _, s := range sizes() {
		checks(t, s.rows, s.columns, nil, api.ErrArg)
		for length := range 130 {
			checks(t, s.rows, s.columns, room[:length], argIf(length != s.cells()))
		}
		checks(t, s.rows, s.columns, make([]int, 1<<16+s.cells()), api.ErrArg)
	}
}

func TestNumbers(t *testing.T) {
	for _, s := range sizes() {
		for cell := range s.cells() {
			for x := -2; x <= 12; x++ {
				cells := make([]int, s.cells())
				cells[cell] = x
				checks(t, s.rows, s.columns, cells, argIf(x < 0 || x > s.n()))
			}
			for _, x := range []int{math.MaxInt, math.MinInt, 256, 257, 1 << 32, 1<<32 + 1, -256, -255} {
				cells := make([]int, s.cells())
				cells[cell] = x
				checks(t, s.rows, s.columns, cells, api.ErrArg)
			}
		}
		// Numbers that are at odds make a puzzle all the same.
		for x := 1; x <= s.n(); x++ {
			checks(t, s.rows, s.columns, slices.Repeat([]int{x}, s.cells()), api.OK)
		}
	}
}

func TestHowMany(t *testing.T) {
	for _, s := range sizes() {
		for _, cells := range [][]int{make([]int, s.cells()), slices.Repeat([]int{1}, s.cells())} {
			for _, most := range []int{math.MinInt, -1 << 32, -1, 0, 21, 22, 100, 256, 257, 1 << 32, 1<<32 + 1, math.MaxInt} {
				if l, e := puzzle.Solve(s.rows, s.columns, cells, most); e != api.ErrRange || l != nil {
					t.Error(s, most, l, e)
				}
			}
			for most := 1; most <= 20; most++ {
				if l, e := puzzle.Solve(s.rows, s.columns, cells, most); e != api.OK || len(l) > most {
					t.Error(s, most, l, e)
				}
			}
		}
	}
}
