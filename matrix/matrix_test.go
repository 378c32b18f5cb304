package matrix_test

import (
	"math"
	"math/rand"
	"slices"
	"strconv"
	"testing"

	"parlour/api"
	"parlour/matrix"
)

// filled has the same number everywhere.
func filled(rows, columns, n int) [][]int {
	a := make([][]int, rows)
	for i := range a {
		a[i] = slices.Repeat([]int{n}, columns)
	}
	return a
}

// checks: all three calls tell the same error, and nothing beside it.
func checks(t *testing.T, name string, a [][]int, want api.Errno) {
	t.Helper()
	if e := matrix.Check(a); e != want {
		t.Error(name, "Check:", e, "not", want)
	}
	v, x, y, e := matrix.Solve(a)
	if e != want {
		t.Error(name, "Solve:", e, "not", want)
	}
	if want != api.OK && (v != "" || x != nil || y != nil) {
		t.Error(name, "Solve:", v, x, y, "beside", want)
	}
	if want == api.OK {
		certifies(t, a)
	}
	i, j, some, e := matrix.Saddle(a)
	if e != want {
		t.Error(name, "Saddle:", e, "not", want)
	}
	if !some && (i != 0 || j != 0) || want != api.OK && some {
		t.Error(name, "Saddle:", i, j, some, "beside", want)
	}
}

func argIf(is bool) api.Errno {
	if is {
		return api.ErrArg
	}
	return api.OK
}

func TestSizes(t *testing.T) {
	checks(t, "nil", nil, api.ErrArg)
	checks(t, "empty", [][]int{}, api.ErrArg)
	checks(t, "many rows", filled(100000, 3, 1), api.ErrArg)
	checks(t, "many columns", filled(3, 100000, 1), api.ErrArg)
	for rows := 0; rows <= 9; rows++ {
		for columns := 0; columns <= 9; columns++ {
			name := strconv.Itoa(rows) + " rows, " + strconv.Itoa(columns) + " columns"
			checks(t, name, filled(rows, columns, 1), argIf(rows < 1 || rows > 6 || columns < 1 || columns > 6))
		}
	}
}

func TestRowsOfOtherLengths(t *testing.T) {
	for rows := 2; rows <= 6; rows++ {
		for columns := 1; columns <= 6; columns++ {
			for place := range rows {
				for length := 0; length <= 8; length++ {
					a := filled(rows, columns, 1)
					a[place] = slices.Repeat([]int{1}, length)
					checks(t, "row", a, argIf(length != columns))
					if length == 0 {
						a[place] = nil
						checks(t, "no row", a, api.ErrArg)
					}
				}
			}
		}
	}
	// Room behind a row is no part of it.
	room := []int{1, 2, 3, 4, 5, 6, 7, 8}
	checks(t, "room behind", [][]int{room[:2], room[1:3], {1, 2}}, api.OK)
	checks(t, "room behind", [][]int{room[:2], room[1:2]}, api.ErrArg)
}

func TestNumbers(t *testing.T) {
	for _, size := range [][2]int{{1, 1}, {1, 6}, {6, 1}, {2, 3}, {6, 6}} {
		for place := range size[0] * size[1] {
			for _, n := range []int{-100, -99, 0, 99, 100, -101, 101, 200, -200, 1000, 1 << 32, 1<<32 + 1, -1 << 32, 256, -256, math.MaxInt, math.MinInt, math.MinInt + 1} {
				a := filled(size[0], size[1], 1)
				a[place/size[1]][place%size[1]] = n
				checks(t, strconv.Itoa(n), a, argIf(n < -100 || n > 100))
			}
		}
	}
}

// saddles are all of them, in order, straight from P25's words.
func saddles(a [][]int) [][2]int {
	var all [][2]int
	for i := range a {
		for j := range a[i] {
			is := true
			for k := range a[i] {
				is = is && a[i][j] <= a[i][k]
			}
			for k := range a {
				is = is && a[i][j] >= a[k][j]
			}
			if is {
				all = append(all, [2]int{i, j})
			}
		}
	}
	return all
}

func rests(t *testing.T, a [][]int) bool {
	t.Helper()
	all := saddles(a)
	i, j, some, e := matrix.Saddle(a)
	if e != api.OK || some != (len(all) > 0) {
		t.Fatal(a, i, j, some, e, "not", all)
	}
	if !some {
		all = [][2]int{{0, 0}}
	}
	if [2]int{i, j} != all[0] {
		t.Fatal(a, i, j, "not", all)
	}
	if v, _, _, _ := matrix.Solve(a); some && v != strconv.Itoa(a[i][j]) {
		t.Fatal(a, v, "not", a[i][j])
	}
	return some
}

func saddle(t *testing.T, a [][]int, row, column int) {
	t.Helper()
	if i, j, some, e := matrix.Saddle(a); i != row || j != column || !some || e != api.OK {
		t.Error(a, i, j, some, e, "not", row, column)
	}
	rests(t, a)
}

func noSaddle(t *testing.T, a [][]int) {
	t.Helper()
	if i, j, some, e := matrix.Saddle(a); i != 0 || j != 0 || some || e != api.OK {
		t.Error(a, i, j, some, e)
	}
}

func TestSaddles(t *testing.T) {
	saddle(t, [][]int{{-100}}, 0, 0)
	saddle(t, [][]int{{3, 1}, {4, 2}}, 1, 1)
	saddle(t, [][]int{{5, 2, 7}}, 0, 1)
	saddle(t, [][]int{{5}, {9}, {7}}, 1, 0)
	saddle(t, [][]int{{4, 1, 9}, {5, 3, 6}, {-8, 2, 0}}, 1, 1)
	saddle(t, [][]int{{0, -1}, {1, 0}}, 1, 1)
	// Of some the first, by row, then by column.
	saddle(t, filled(6, 6, 0), 0, 0)
	saddle(t, [][]int{{7, 7, 7, 1, 1, 1}}, 0, 3)
	saddle(t, [][]int{{1}, {7}, {7}}, 1, 0)
	saddle(t, [][]int{{3, 0, 0}, {1, 2, 2}, {1, 2, 3}}[:1], 0, 1)
	saddle(t, [][]int{{9, 2, 5, 2}, {0, 1, 9, 0}, {7, 2, 4, 2}, {3, -5, 6, -1}}, 0, 1)
	saddle(t, [][]int{{0, 1, 9, 0}, {7, 2, 4, 2}, {3, -5, 6, -1}, {9, 2, 5, 2}}, 1, 1)
	saddle(t, [][]int{{0, 0}, {1, 0}}, 0, 1)
	noSaddle(t, [][]int{{1, -1}, {-1, 1}})
	noSaddle(t, [][]int{{0, 1}, {1, 0}})
	noSaddle(t, [][]int{{0, -1, 1}, {1, 0, -1}, {-1, 1, 0}})
	// The least of its column and the greatest of its row is none.
	noSaddle(t, [][]int{{1, 3, 2}, {5, 4, 0}, {0, 5, 9}})
}

func TestManySaddles(t *testing.T) {
	rnd := rand.New(rand.NewSource(12))
	kinds := map[bool]int{}
	for range 20000 {
		kinds[rests(t, anyMatrix(rnd))]++
	}
	if kinds[true] < 2000 || kinds[false] < 2000 {
		t.Error("too little came up:", kinds)
	}
}
