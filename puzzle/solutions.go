package puzzle

import "slices"

// listing goes over solutions in their order, cell by cell, and never goes on with
// numbers behind which there is none.
type listing struct {
	*hunt
	most    int
	numbers []int
	found   [][]int
}

// solutions are the first most ones.
func (s *square) solutions(cells []int, most int) [][]int {
	l := &listing{hunt: newHunt(s), most: most, numbers: make([]int, s.cells())}
	if t, fit := s.given(cells); fit {
		l.from(t, 0)
	}
	return l.found
}

// from lists those that have the numbers chosen ahead of the cell.
func (l *listing) from(t state, cell int) {
	if cell == l.cells() {
		l.found = append(l.found, slices.Clone(l.numbers))
		return
	}
	for number := 1; number <= l.n && len(l.found) < l.most; number++ {
		c := l.choice(cell, number)
		if t.gone[c] {
			continue
		}
		next := t
		l.take(&next, c)
		if l.isSolvable(next) {
			l.numbers[cell] = number
			l.from(next, cell+1)
		}
	}
}
