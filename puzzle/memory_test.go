package puzzle_test

import (
	"math/rand"
	"reflect"
	"slices"
	"sync"
	"testing"

	"parlour/api"
	"parlour/puzzle"
)

// given is what may be handed in, in lists with room behind them.
type given struct{ cells, full, order []int }

func newGiven() given {
	return given{
		cells: append(digits("1...............")[:16], 77, 78),
		full:  append(digits("1234341221434321")[:16], 79, 80),
		order: []int{3, 1, 4, 1, 5, 9, 2, 6, 75, 76},
	}
}

// answer is all that comes of it.
type answer struct {
	solutions [][]int
	made      []int
}

func (g given) asked(t *testing.T) (x answer) {
	t.Helper()
	var errs [3]api.Errno
	errs[0] = puzzle.Check(2, 2, g.cells[:16])
	x.solutions, errs[1] = puzzle.Solve(2, 2, g.cells[:16], 20)
	x.made, errs[2] = puzzle.Make(2, 2, g.full[:16], g.order[:8])
	if errs != [3]api.Errno{} {
		t.Error(errs)
	}
	return x
}

func wiped(x answer) {
	for _, l := range x.solutions {
		clear(l[:cap(l)])
	}
	clear(x.solutions[:cap(x.solutions)])
	clear(x.made[:cap(x.made)])
}

func TestWhatIsHandedInStays(t *testing.T) {
	g := newGiven()
	first := g.asked(t)
	if !reflect.DeepEqual(g, newGiven()) {
		t.Error(g)
	}
	s := size{2, 2}
	want := answer{s.plain(newGiven().cells[:16], 20), s.thinned(newGiven().full[:16], newGiven().order[:8])}
	if !reflect.DeepEqual(first, want) {
		t.Error(first, "not", want)
	}
	// What is done with an answer is seen nowhere else, nor what is done with what
	// was handed in.
	second := g.asked(t)
	wiped(first)
	if !reflect.DeepEqual(g, newGiven()) || !reflect.DeepEqual(g.asked(t), want) {
		t.Error(g)
	}
	clear(g.cells)
	clear(g.full)
	clear(g.order)
	if !reflect.DeepEqual(second, want) {
		t.Error(second, "not", want)
	}
}

func TestListsOfAnAnswerStayApart(t *testing.T) {
	for _, s := range sizes() {
		l := solved(t, s, make([]int, s.cells()), 20)
		for i := range l {
			others := slices.Clone(l)
			for k := range others {
				others[k] = slices.Clone(l[k])
			}
			for k := range l[i][:cap(l[i])] {
				l[i][:cap(l[i])][k] = 99
			}
			others[i] = l[i]
			if !reflect.DeepEqual(l, others) {
				t.Fatal(s, i)
			}
		}
	}
}

// TestNothingTaken: where no number goes away the answer is still a list of its
// own.
func TestNothingTaken(t *testing.T) {
	full := digits("1221")
	p, e := puzzle.Make(1, 2, full, nil)
	if e != api.OK || !slices.Equal(p, full) {
		t.Fatal(p, e)
	}
	p[0] = 7
	if full[0] != 1 {
		t.Error(full)
	}
}

func TestCallsAtTheSameTime(t *testing.T) {
	rnd := rand.New(rand.NewSource(9))
	type question struct {
		s                  size
		cells, full, order []int
	}
	ask := func(q question) (x answer) {
		x.solutions, _ = puzzle.Solve(q.s.rows, q.s.columns, q.cells, 20)
		x.made, _ = puzzle.Make(q.s.rows, q.s.columns, q.full, q.order)
		return x
	}
	var all []question
	var want []answer
	for _, s := range sizes() {
		full := s.anyFull(rnd)
		q := question{s, emptied(rnd, full, s.cells()*3/4), full, rnd.Perm(s.cells())}
		all, want = append(all, q), append(want, ask(q))
	}
	var group sync.WaitGroup
	for range 8 {
		group.Go(func() {
			for i := range 45 {
				if k := i % len(all); !reflect.DeepEqual(ask(all[k]), want[k]) {
					t.Error(k)
				}
			}
		})
	}
	group.Wait()
}
