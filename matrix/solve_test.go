package matrix_test

import (
	"math/big"
	"math/rand"
	"reflect"
	"slices"
	"sync"
	"testing"
	"unsafe"

	"parlour/api"
	"parlour/matrix"
)

// read is the fraction of a text, which must be as P23 writes it.
func read(t *testing.T, s string) *big.Rat {
	t.Helper()
	x, ok := new(big.Rat).SetString(s)
	if !ok || x.RatString() != s {
		t.Fatalf("%q is no fraction", s)
	}
	return x
}

// mixOf is that of some texts.
func mixOf(t *testing.T, l []string, n int) []*big.Rat {
	t.Helper()
	if len(l) != n {
		t.Fatal(l, "are not", n)
	}
	sum := new(big.Rat)
	var mix []*big.Rat
	for _, s := range l {
		x := read(t, s)
		if x.Sign() < 0 {
			t.Fatal(l, "has one below 0")
		}
		sum.Add(sum, x)
		mix = append(mix, x)
	}
	if sum.Cmp(big.NewRat(1, 1)) != 0 {
		t.Fatal(l, "are together", sum)
	}
	return mix
}

// whole is what a mix comes to against numbers.
func whole(mix []*big.Rat, at func(i int) int) *big.Rat {
	sum := new(big.Rat)
	for i, x := range mix {
		sum.Add(sum, new(big.Rat).Mul(x, big.NewRat(int64(at(i)), 1)))
	}
	return sum
}

// certifies: the two mixes show the value, as P25 says; there is no other one.
func certifies(t *testing.T, a [][]int) *big.Rat {
	t.Helper()
	v, x, y, e := matrix.Solve(a)
	if e != api.OK {
		t.Fatal(a, e)
	}
	value, rows, columns := read(t, v), mixOf(t, x, len(a)), mixOf(t, y, len(a[0]))
	for j := range a[0] {
		if has := whole(rows, func(i int) int { return a[i][j] }); has.Cmp(value) < 0 {
			t.Fatal(a, v, x, "has", has, "against column", j)
		}
	}
	for i := range a {
		if gives := whole(columns, func(j int) int { return a[i][j] }); gives.Cmp(value) > 0 {
			t.Fatal(a, v, y, "gives", gives, "against row", i)
		}
	}
	return value
}

func worth(t *testing.T, a [][]int, want string) {
	t.Helper()
	if v := certifies(t, a).RatString(); v != want {
		t.Error(a, v, "not", want)
	}
}

// solves: where there is but one mix for each.
func solves(t *testing.T, a [][]int, value string, rows, columns []string) {
	t.Helper()
	worth(t, a, value)
	if _, x, y, _ := matrix.Solve(a); !slices.Equal(x, rows) || !slices.Equal(y, columns) {
		t.Error(a, x, y, "not", rows, columns)
	}
}

func TestValues(t *testing.T) {
	solves(t, [][]int{{1, -1}, {-1, 1}}, "0", []string{"1/2", "1/2"}, []string{"1/2", "1/2"})
	solves(t, [][]int{{2, -1}, {-1, 1}}, "1/5", []string{"2/5", "3/5"}, []string{"2/5", "3/5"})
	solves(t, [][]int{{-2, 1}, {1, -1}}, "-1/5", []string{"2/5", "3/5"}, []string{"2/5", "3/5"})
	solves(t, [][]int{{0, 1}, {1, 0}}, "1/2", []string{"1/2", "1/2"}, []string{"1/2", "1/2"})
	solves(t, [][]int{{0, -1}, {-1, 0}}, "-1/2", []string{"1/2", "1/2"}, []string{"1/2", "1/2"})
	solves(t, [][]int{{3, 0}, {1, 2}}, "3/2", []string{"1/4", "3/4"}, []string{"1/2", "1/2"})
	solves(t, [][]int{{3, 1}, {4, 2}}, "2", []string{"0", "1"}, []string{"0", "1"})
	solves(t, [][]int{{-100}}, "-100", []string{"1"}, []string{"1"})
	solves(t, [][]int{{100}}, "100", []string{"1"}, []string{"1"})
	solves(t, [][]int{{0}}, "0", []string{"1"}, []string{"1"})
	solves(t, [][]int{{4, -7, 9}}, "-7", []string{"1"}, []string{"0", "1", "0"})
	solves(t, [][]int{{4}, {-7}, {9}}, "9", []string{"0", "0", "1"}, []string{"1"})
	// Stone, scissors, paper; and where one of them is worth more.
	third := []string{"1/3", "1/3", "1/3"}
	solves(t, [][]int{{0, 1, -1}, {-1, 0, 1}, {1, -1, 0}}, "0", third, third)
	solves(t, [][]int{{0, 2, -1}, {-2, 0, 3}, {1, -3, 0}}, "0", []string{"1/2", "1/6", "1/3"}, []string{"1/2", "1/6", "1/3"})
	// Some rows and columns that nobody takes.
	solves(t, [][]int{{1, -1, 5}, {-9, -9, -9}, {-1, 1, 4}}, "0", []string{"1/2", "0", "1/2"}, []string{"1/2", "1/2", "0"})
	solves(t, [][]int{{1, 5}, {3, 4}, {6, 0}}, "24/7", []string{"0", "6/7", "1/7"}, []string{"4/7", "3/7"})
}

// Where there are many mixes any one will do, but the value is one.
func TestManyMixes(t *testing.T) {
	for rows := 1; rows <= 6; rows++ {
		for columns := 1; columns <= 6; columns++ {
			for _, n := range []int{-100, -1, 0, 1, 100} {
				worth(t, filled(rows, columns, n), big.NewInt(int64(n)).String())
			}
		}
	}
	worth(t, [][]int{{1, -1, 1, -1}, {-1, 1, -1, 1}, {1, -1, 1, -1}, {-1, 1, -1, 1}}, "0")
	worth(t, [][]int{{1, 0, 1}, {0, 1, 0}, {0, 1, 1}, {1, 0, 0}}, "1/2")
	worth(t, [][]int{{0, 0, 1}, {0, 0, -1}}, "0")
}

// Where only the diagonal is more than 0 each row is taken the less the more is
// there, and all six of them are needed.
func TestDiagonals(t *testing.T) {
	rnd := rand.New(rand.NewSource(6))
	for range 300 {
		n := 1 + rnd.Intn(6)
		a, sum := filled(n, n, 0), new(big.Rat)
		for i, j := range rnd.Perm(n) {
			a[i][j] = 1 + rnd.Intn(100)
			sum.Add(sum, big.NewRat(1, int64(a[i][j])))
		}
		worth(t, a, sum.Inv(sum).RatString())
		_, x, y, _ := matrix.Solve(a)
		if slices.Contains(x, "0") || slices.Contains(y, "0") {
			t.Error(a, x, y)
		}
	}
	// No two of these numbers have anything in common.
	a := filled(6, 6, -100)
	for i, n := range []int{100, 99, 97, 91, 89, 83} {
		a[i][5-i] = n
	}
	certifies(t, a)
}

// All matrices of a size, of some numbers.
func every(size [2]int, numbers []int, do func(a [][]int)) {
	a := filled(size[0], size[1], 0)
	var fill func(place int)
	fill = func(place int) {
		if place == size[0]*size[1] {
			do(a)
			return
		}
		for _, n := range numbers {
			a[place/size[1]][place%size[1]] = n
			fill(place + 1)
		}
	}
	fill(0)
}

func TestEverySmallMatrix(t *testing.T) {
	for _, x := range []struct {
		size    [2]int
		numbers []int
	}{
		{[2]int{1, 3}, []int{-100, -1, 0, 1, 100}}, {[2]int{3, 1}, []int{-100, -1, 0, 1, 100}},
		{[2]int{2, 2}, []int{-100, -3, -1, 0, 1, 2, 100}}, {[2]int{2, 3}, []int{-2, 0, 1, 3}}, {[2]int{3, 2}, []int{-2, 0, 1, 3}},
		{[2]int{3, 3}, []int{-1, 0, 1}}, {[2]int{3, 4}, []int{0, 1}}, {[2]int{4, 3}, []int{-1, 1}},
	} {
		every(x.size, x.numbers, func(a [][]int) {
			certifies(t, a)
			rests(t, a)
		})
	}
}

// anyMatrix has few numbers, many, or the greatest ones.
func anyMatrix(rnd *rand.Rand) [][]int {
	a := filled(1+rnd.Intn(6), 1+rnd.Intn(6), 0)
	if rnd.Intn(3) == 0 {
		a = filled(6, 6, 0)
	}
	kind, most := rnd.Intn(5), []int{1, 2, 5, 100}[rnd.Intn(4)]
	for i := range a {
		for j := range a[i] {
			switch kind {
			case 0:
				a[i][j] = []int{-100, 100}[rnd.Intn(2)]
			case 1:
				a[i][j] = []int{-100, -99, 0, 99, 100}[rnd.Intn(5)]
			case 2:
				// Each row is good against a column of its own: all are needed.
				a[i][j] = rnd.Intn(20) - 90
				if i == j {
					a[i][j] = rnd.Intn(201) - 100
				}
			default:
				a[i][j] = rnd.Intn(2*most+1) - most
			}
		}
	}
	// Lines that are there twice, or hardly different.
	if i, j := rnd.Intn(len(a)), rnd.Intn(len(a)); rnd.Intn(4) == 0 {
		copy(a[i], a[j])
		a[i][0] = max(-100, a[i][0]-rnd.Intn(2))
	}
	return a
}

func TestAnyMatrix(t *testing.T) {
	rnd := rand.New(rand.NewSource(25))
	used := map[int]int{}
	for range 20000 {
		a := anyMatrix(rnd)
		certifies(t, a)
		_, x, _, _ := matrix.Solve(a)
		used[len(slices.DeleteFunc(x, func(s string) bool { return s == "0" }))]++
	}
	for rows := 1; rows <= 6; rows++ {
		if used[rows] < 100 {
			t.Error("too few mixes of so many rows:", rows, used)
		}
	}
}

// mapped has each number of a matrix otherwise, and rows for columns.
func mapped(a [][]int, f func(n int) int) [][]int {
	b := filled(len(a[0]), len(a), 0)
	for i := range b {
		for j := range b[i] {
			b[i][j] = f(a[j][i])
		}
	}
	return b
}

// What the players change the value changes with them.
func TestValuesFollow(t *testing.T) {
	rnd := rand.New(rand.NewSource(52))
	for range 2000 {
		a := mapped(anyMatrix(rnd), func(n int) int { return n / 4 })
		v := certifies(t, a)
		turned := mapped(a, func(n int) int { return -n })
		worth(t, turned, new(big.Rat).Neg(v).RatString())
		by, more := 1+rnd.Intn(3), rnd.Intn(51)-25
		other := mapped(turned, func(n int) int { return more - by*n })
		want := new(big.Rat).Mul(v, big.NewRat(int64(by), 1))
		worth(t, other, want.Add(want, big.NewRat(int64(more), 1)).RatString())
		// Rows in another order.
		rnd.Shuffle(len(a), func(i, j int) { a[i], a[j] = a[j], a[i] })
		worth(t, a, v.RatString())
	}
	// Who is in the other one's place has as much: nothing.
	for range 1000 {
		n := 1 + rnd.Intn(6)
		a := filled(n, n, 0)
		for i := range n {
			for j := range i {
				a[i][j] = rnd.Intn(201) - 100
				a[j][i] = -a[i][j]
			}
		}
		worth(t, a, "0")
	}
}

// The greatest determinants there can be.
func TestGreatNumbers(t *testing.T) {
	// The determinant of these signs is -160; none is further from 0.
	signs := [][]int{
		{1, 1, 1, 1, 1, -1}, {1, 1, -1, -1, 1, 1}, {1, -1, 1, -1, 1, 1},
		{1, -1, -1, 1, 1, 1}, {-1, 1, 1, 1, 1, 1}, {1, 1, 1, 1, -1, 1},
	}
	rnd := rand.New(rand.NewSource(160))
	for range 3000 {
		a := mapped(signs, func(n int) int { return n * (100 - rnd.Intn(1+rnd.Intn(4))) })
		certifies(t, a)
		for i := range a {
			if rnd.Intn(2) == 0 {
				for j := range a {
					a[i][j] = -a[i][j]
				}
			}
		}
		certifies(t, a)
	}
}

func inRoom() (a [][]int, room []int, more [][]int) {
	room = []int{3, 0, 77, 1, 2, 78, 79, 80}
	more = [][]int{room[0:2], room[3:5], {81, 82}, nil}
	return more[:2], room, more
}

// overlaps: two lists with their spare room.
func overlaps(a, b []string) bool {
	if cap(a) == 0 || cap(b) == 0 {
		return false
	}
	from, to := uintptr(unsafe.Pointer(unsafe.SliceData(a))), uintptr(unsafe.Pointer(unsafe.SliceData(b)))
	size := unsafe.Sizeof("")
	return from < to+uintptr(cap(b))*size && to < from+uintptr(cap(a))*size
}

func TestMatricesStay(t *testing.T) {
	a, room, more := inRoom()
	_, oldRoom, oldMore := inRoom()
	matrix.Check(a)
	saddle(t, [][]int{room[:1]}, 0, 0)
	noSaddle(t, a)
	_, x, y, _ := matrix.Solve(a)
	_, u, w, _ := matrix.Solve(a)
	if !slices.Equal(room, oldRoom) || !reflect.DeepEqual(more, oldMore) {
		t.Error(room, more)
	}
	lists := [][]string{x, y, u, w}
	for i, l := range lists {
		for _, other := range lists[:i] {
			if overlaps(l, other) {
				t.Error("two lists lie in one another")
			}
		}
	}
	// What is done with an answer, or with what was handed in, is seen nowhere else.
	for _, l := range [][]string{x, y} {
		for i := range l[:cap(l)] {
			l[:cap(l)][i] = "?"
		}
	}
	solves(t, a, "3/2", []string{"1/4", "3/4"}, []string{"1/2", "1/2"})
	clear(room)
	if !slices.Equal(u, []string{"1/4", "3/4"}) || !slices.Equal(w, []string{"1/2", "1/2"}) {
		t.Error(u, w)
	}
	worth(t, a, "0")
}

func TestRowsThatAreOne(t *testing.T) {
	row := []int{4, -2, 4, 9}
	a := [][]int{row, row, row}
	worth(t, a, "-2")
	saddle(t, a, 0, 1)
}

func TestCallsAtTheSameTime(t *testing.T) {
	type answer struct {
		value         string
		rows, columns []string
		row, column   int
		some          bool
		solve, saddle api.Errno
	}
	ask := func(a [][]int) (x answer) {
		x.value, x.rows, x.columns, x.solve = matrix.Solve(a)
		x.row, x.column, x.some, x.saddle = matrix.Saddle(a)
		return x
	}
	rnd := rand.New(rand.NewSource(8))
	all, want := [][][]int{nil, {{1}, {101}}}, []answer{{solve: api.ErrArg, saddle: api.ErrArg}, {solve: api.ErrArg, saddle: api.ErrArg}}
	for range 20 {
		a := anyMatrix(rnd)
		all, want = append(all, a), append(want, ask(a))
	}
	var group sync.WaitGroup
	for range 8 {
		group.Go(func() {
			for i := range 200 {
				k := i % len(all)
				if got := ask(all[k]); !reflect.DeepEqual(got, want[k]) || matrix.Check(all[k]) != want[k].solve {
					t.Error(k, got)
				}
			}
		})
	}
	group.Wait()
}
