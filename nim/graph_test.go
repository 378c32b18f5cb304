package nim_test

import (
	"math"
	"slices"
	"testing"
	"unsafe"

	"parlour/api"
	"parlour/nim"
)

func valuesFail(t *testing.T, name string, next [][]int, want api.Errno) {
	t.Helper()
	if v, e := nim.Values(next); v != nil || e != want {
		t.Error(name, v, e, "not", want)
	}
}

func bothFail(t *testing.T, name string, a, b [][]int, want api.Errno) {
	t.Helper()
	if g, e := nim.Both(a, b); g != nil || e != want {
		t.Error(name, len(g), e, "not", want)
	}
}

func values(t *testing.T, name string, next [][]int, want ...int) {
	t.Helper()
	if v, e := nim.Values(next); e != api.OK || !slices.Equal(v, want) {
		t.Error(name, v, e, "not", want)
	}
}

func both(t *testing.T, a, b [][]int, want [][]int) {
	t.Helper()
	if g, e := nim.Both(a, b); e != api.OK || !slices.EqualFunc(g, want, slices.Equal) {
		t.Error(a, b, g, e, "not", want)
	}
}

// wide has so many numbers, of which one leads to the same other again and
// again, from the last one to the first or the other way round.
func wide(numbers, from, others int) [][]int {
	next := make([][]int, numbers)
	next[from] = slices.Repeat([]int{numbers - 1 - from}, others)
	return next
}

// ring leads from each number to the next by so many, and round.
func ring(numbers, step int) [][]int {
	next := make([][]int, numbers)
	for i := range next {
		next[i] = []int{(i + step) % numbers}
	}
	return next
}

func TestValuesOfGraphs(t *testing.T) {
	values(t, "nil", nil)
	values(t, "empty", [][]int{})
	values(t, "one", [][]int{nil}, 0)
	values(t, "one, an empty list", [][]int{{}}, 0)
	values(t, "no moves", make([][]int, 5), 0, 0, 0, 0, 0)
	values(t, "a step", [][]int{nil, {0}}, 0, 1)
	values(t, "a step down", [][]int{{1}, nil}, 1, 0)
	values(t, "some", [][]int{nil, {0}, {0, 1}, {2, 1}}, 0, 1, 2, 0)
	values(t, "in another order", [][]int{{1, 2}, {2}, nil, {1, 0}}, 2, 1, 0, 0)
	values(t, "a gap", [][]int{nil, {0}, {1, 0}, {2, 0}}, 0, 1, 2, 1)
	values(t, "the same other twice", [][]int{nil, {0, 0}, {1, 0, 1, 0, 1}, {1, 1}, {2, 2, 0}}, 0, 1, 2, 0, 1)
	values(t, "two that meet", [][]int{{1, 2}, {3}, {3}, nil}, 0, 1, 1, 0)
}

func TestGraphsThatAreTooLarge(t *testing.T) {
	for _, numbers := range []int{1001, 1002, 5000} {
		valuesFail(t, "numbers", make([][]int, numbers), api.ErrLarge)
		valuesFail(t, "numbers that are ErrRange too", append(make([][]int, numbers), []int{-1}), api.ErrLarge)
		valuesFail(t, "numbers in a ring", ring(numbers, 1), api.ErrLarge)
	}
	values(t, "1000", make([][]int, 1000), make([]int, 1000)...)
	for _, numbers := range []int{2, 3, 1000} {
		for _, from := range []int{0, numbers - 1} {
			want := make([]int, numbers)
			want[from] = 1
			values(t, "999 others", wide(numbers, from, 999), want...)
			values(t, "1000 others", wide(numbers, from, 1000), want...)
			valuesFail(t, "1001 others", wide(numbers, from, 1001), api.ErrLarge)
			valuesFail(t, "2000 others", wide(numbers, from, 2000), api.ErrLarge)
		}
	}
	// All that can be: each to all that come ahead of it.
	next, want := make([][]int, 1000), make([]int, 1000)
	for i := range next {
		want[i] = i
		for to := range i {
			next[i] = append(next[i], to)
		}
		for len(next[i]) > 0 && len(next[i]) < 1000 {
			next[i] = append(next[i], i-1)
		}
	}
	values(t, "all", next, want...)
}

func TestMovesToNowhere(t *testing.T) {
	for _, numbers := range []int{1, 2, 7, 1000} {
		for _, to := range []int{math.MinInt, -numbers, -1, numbers, numbers + 1, 1 << 32, math.MaxInt} {
			for _, from := range []int{0, numbers / 2, numbers - 1} {
				next := make([][]int, numbers)
				next[from] = []int{to}
				valuesFail(t, "one", next, api.ErrRange)
				for i := range next {
					next[i] = append(next[i], 0)
				}
				valuesFail(t, "one beside rings", next, api.ErrRange)
				next = ring(numbers, 1)
				next[from] = append(next[from], to)
				valuesFail(t, "one at the end of a list", next, api.ErrRange)
			}
		}
	}
}

func TestErrorsOfGraphsInOrder(t *testing.T) {
	tooMany := slices.Repeat([]int{0}, 1001)
	astray := slices.Repeat([]int{-1}, 1001)
	valuesFail(t, "too many behind one to nowhere", [][]int{{-1}, {1}, tooMany}, api.ErrLarge)
	valuesFail(t, "too many ahead of one to nowhere", [][]int{tooMany, {1}, {3}}, api.ErrLarge)
	valuesFail(t, "too many to nowhere", [][]int{astray}, api.ErrLarge)
	valuesFail(t, "too many to itself", [][]int{tooMany}, api.ErrLarge)
	valuesFail(t, "a way round ahead of one to nowhere", [][]int{{0}, {2}}, api.ErrRange)
	valuesFail(t, "a way round behind one to nowhere", [][]int{{2}, {1}}, api.ErrRange)
	valuesFail(t, "a way round and one to nowhere", [][]int{{0, -1}}, api.ErrRange)
	valuesFail(t, "many to nowhere", [][]int{astray[:1000]}, api.ErrRange)
	valuesFail(t, "many to itself", [][]int{tooMany[:1000]}, api.ErrCycle)
}

func TestWaysBack(t *testing.T) {
	for _, numbers := range []int{1, 2, 3, 10, 999, 1000} {
		valuesFail(t, "ring", ring(numbers, 1), api.ErrCycle)
		valuesFail(t, "ring the other way", ring(numbers, numbers-1), api.ErrCycle)
		// It is none any more if one goes nowhere, wherever that is.
		for _, end := range []int{0, numbers / 2, numbers - 1} {
			for _, step := range []int{1, numbers - 1} {
				next := ring(numbers, step)
				next[end] = nil
				if v, e := nim.Values(next); e != api.OK || v[end] != 0 {
					t.Error(numbers, end, step, e)
				}
			}
			// One that leads to itself is one, be it alone or behind others.
			next := make([][]int, numbers)
			next[end] = []int{end}
			valuesFail(t, "itself", next, api.ErrCycle)
			for i := range numbers - 1 {
				next[i] = append(next[i], i+1)
			}
			valuesFail(t, "itself behind others", next, api.ErrCycle)
		}
	}
	valuesFail(t, "ring", [][]int{{1}, {0}}, api.ErrCycle)
	valuesFail(t, "ring that nobody comes to", [][]int{nil, {2}, {1}, {0}}, api.ErrCycle)
	valuesFail(t, "ring that one goes out of", [][]int{nil, {0, 2}, {0, 1}}, api.ErrCycle)
	valuesFail(t, "ring behind others", [][]int{{1}, {2}, {4, 3}, {1}, nil}, api.ErrCycle)
	valuesFail(t, "the last of 1000 others", [][]int{nil, append(slices.Repeat([]int{0}, 999), 1)}, api.ErrCycle)
}

// A way through all numbers, with and without ways that are shorter.
func TestDeepGraphs(t *testing.T) {
	for _, down := range []bool{false, true} {
		plain, square, want, of := make([][]int, 1000), make([][]int, 1000), make([]int, 1000), make([]int, 1000)
		for n := range 1000 {
			at := func(n int) int {
				if down {
					return 999 - n
				}
				return n
			}
			want[at(n)] = n % 2
			of[at(n)] = n % 3
			if n > 0 {
				plain[at(n)] = []int{at(n - 1)}
				square[at(n)] = []int{at(n - 1)}
			}
			if n > 1 {
				square[at(n)] = append(square[at(n)], at(n-2))
			}
		}
		values(t, "one by one", plain, want...)
		values(t, "by one or by two", square, of...)
	}
}

func TestSideBySide(t *testing.T) {
	none, one, step := [][]int{}, [][]int{nil}, [][]int{nil, {0}}
	both(t, one, one, [][]int{nil})
	both(t, step, one, [][]int{nil, {0}})
	both(t, one, step, [][]int{nil, {0}})
	both(t, step, step, [][]int{nil, {0}, {0}, {1, 2}})
	both(t, step, [][]int{nil, {0}, {1, 0}}, [][]int{nil, {0}, {1, 0}, {0}, {1, 3}, {2, 4, 3}})
	both(t, [][]int{nil, {0}, {1, 0}}, step, [][]int{nil, {0}, {0}, {1, 2}, {2, 0}, {3, 1, 4}})
	// In their order, and as often as they are told.
	both(t, [][]int{{2, 1, 2}, nil, nil}, [][]int{{1, 1}, nil}, [][]int{{4, 2, 4, 1, 1}, {5, 3, 5}, {3, 3}, nil, {5, 5}, nil})
	both(t, [][]int{{1}, nil}, [][]int{nil, {2, 0, 2}, nil}, [][]int{{3}, {4, 2, 0, 2}, {5}, nil, {5, 3, 5}, nil})
	// Rings are no matter.
	both(t, [][]int{{0}}, [][]int{{0}}, [][]int{{0, 0}})
	both(t, [][]int{{1}, {0}}, [][]int{{0}}, [][]int{{1, 0}, {0, 1}})
	both(t, [][]int{{1}, {0}}, ring(3, 1), [][]int{{3, 1}, {4, 2}, {5, 0}, {0, 4}, {1, 5}, {2, 3}})
	both(t, ring(1000, 1), one, ring(1000, 1))
	both(t, one, ring(1000, 999), ring(1000, 999))
	// Of nothing and anything there is nothing.
	for _, g := range [][][]int{nil, none, one, step, {{0}}, ring(1000, 1), wide(2, 0, 1000)} {
		both(t, nil, g, nil)
		both(t, g, nil, nil)
		both(t, none, g, nil)
		both(t, g, none, nil)
	}
}

// wrong are graphs that are none, by what is told of them.
func wrong() map[api.Errno][][][]int {
	return map[api.Errno][][][]int{
		api.ErrLarge: {make([][]int, 1001), wide(2, 0, 1001), wide(1000, 999, 1001), {{-1}, slices.Repeat([]int{2}, 1001)}},
		api.ErrRange: {{{-1}}, {{1}}, {nil, {2}}, {{0}, {1}, {math.MaxInt}}, {{math.MinInt}}, ring(1000, 1)[:999]},
	}
}

func TestWrongGraphsSideBySide(t *testing.T) {
	right := [][][]int{nil, {nil}, {{0}}, make([][]int, 1000), wide(2, 0, 1000)}
	for err, some := range wrong() {
		for _, g := range some {
			valuesFail(t, "wrong", g, err)
			for _, other := range right {
				bothFail(t, "the first", g, other, err)
				bothFail(t, "the second", other, g, err)
			}
			// What is told of the first comes first.
			for _, others := range wrong() {
				for _, other := range others {
					bothFail(t, "each", g, other, err)
				}
			}
		}
	}
}

func TestHowManyNumbersSideBySide(t *testing.T) {
	for _, x := range [][2]int{{1, 1000}, {2, 500}, {8, 125}, {25, 40}, {31, 32}, {27, 37}, {0, 1000}} {
		for _, y := range [][2]int{{x[0], x[1]}, {x[1], x[0]}} {
			g, e := nim.Both(make([][]int, y[0]), make([][]int, y[1]))
			if e != api.OK || len(g) != x[0]*x[1] {
				t.Error(y, len(g), e)
			}
		}
	}
	for _, x := range [][2]int{{7, 143}, {11, 91}, {13, 77}, {2, 501}, {32, 32}, {2, 1000}, {1000, 1000}} {
		bothFail(t, "numbers", make([][]int, x[0]), make([][]int, x[1]), api.ErrLarge)
		bothFail(t, "numbers", make([][]int, x[1]), make([][]int, x[0]), api.ErrLarge)
	}
}

func TestHowManyOthersSideBySide(t *testing.T) {
	for _, of := range []int{0, 1, 400, 500, 999, 1000} {
		for _, place := range [][2]int{{0, 0}, {0, 29}, {29, 29}, {29, 0}} {
			a, b := wide(30, place[0], of), wide(30, place[1], 1000-of)
			g, e := nim.Both(a, b)
			if e != api.OK || len(g) != 900 || len(g[place[0]*30+place[1]]) != 1000 {
				t.Error(of, place, len(g), e)
			}
			b = wide(30, place[1], 1001-of)
			if of > 0 {
				bothFail(t, "others", a, b, api.ErrLarge)
				bothFail(t, "others", b, a, api.ErrLarge)
			}
		}
	}
	bothFail(t, "others", [][]int{slices.Repeat([]int{0}, 1000)}, [][]int{{0}}, api.ErrLarge)
	bothFail(t, "others", wide(2, 0, 1000), wide(2, 0, 1000), api.ErrLarge)
	// It is not told of what is no graph.
	bothFail(t, "nowhere", wide(2, 0, 1000), [][]int{{1}}, api.ErrRange)
	bothFail(t, "nowhere", make([][]int, 1000), [][]int{nil, {2}}, api.ErrRange)
}

// inRoom are graphs whose lists lie in one room, each with another's numbers
// behind it.
func inRoom() (room []int, a, b [][]int) {
	room = []int{0, 1, 0, 0, 0, 1, 1, 0}
	return room, [][]int{room[0:0], room[2:3], room[0:2], nil}[:3], [][]int{room[4:4], room[3:4], room[4:6]}
}

func TestGraphsStay(t *testing.T) {
	room, a, b := inRoom()
	before, outer := slices.Clone(room), slices.Clone(a[:4])
	v, e := nim.Values(a)
	g, f := nim.Both(a, b)
	if e != api.OK || f != api.OK || len(v) != 3 || len(g) != 9 {
		t.Fatal(v, e, g, f)
	}
	// What is done with an answer is not seen in what was handed in.
	for _, list := range append(g, v) {
		list = list[:cap(list)]
		for i := range list {
			list[i] = -7
		}
	}
	g = g[:cap(g)]
	for i := range g {
		g[i] = nil
	}
	if !slices.Equal(room, before) || !slices.EqualFunc(a[:4], outer, slices.Equal) {
		t.Error(room, a)
	}
	values(t, "again", a, 0, 1, 2)
}

// span is where the room of a list is.
func span(list []int) (from, to uintptr) {
	from = uintptr(unsafe.Pointer(unsafe.SliceData(list)))
	return from, from + uintptr(cap(list))*unsafe.Sizeof(0)
}

func TestListsAreNewMemory(t *testing.T) {
	room, a, b := inRoom()
	first, _ := nim.Both(a, b)
	second, _ := nim.Both(a, b)
	v, _ := nim.Values(a)
	w, _ := nim.Values(a)
	all := slices.Concat(first, second, [][]int{room, v, w})
	for i := range all {
		for j := range i {
			from, to := span(all[i])
			other, end := span(all[j])
			if from < end && other < to {
				t.Fatal(i, j, all[i], all[j])
			}
		}
	}
}
