package puzzle

// A choice is a number in a cell. A demand is that a cell has some number, or that
// a row, a column or a box has a certain one somewhere. Each choice meets one
// demand of each of these four kinds, and a solution is some choices that meet
// each demand once.
type (
	choice int16
	demand int16
)

const (
	kinds      = 4
	maxChoices = maxCells * maxNumber
	maxDemands = kinds * maxCells
)

// square knows of each choice which demands it meets, and the other way round: n
// choices would meet a demand, and there are n for each cell.
type square struct {
	n       int
	demands [maxChoices][kinds]demand
	choices [maxDemands][maxNumber]choice
}

func newSquare(rows, columns int) *square {
	s := &square{n: rows * columns}
	for cell := range s.cells() {
		row, column := cell/s.n, cell%s.n
		// As many boxes stand side by side as each of them has rows.
		box := row/rows*rows + column/columns
		place := row%rows*columns + column%columns
		for i := range s.n {
			c := s.choice(cell, i+1)
			s.join(c, 0, cell, i)
			s.join(c, 1, row*s.n+i, column)
			s.join(c, 2, column*s.n+i, row)
			s.join(c, 3, box*s.n+i, place)
		}
	}
	return s
}

// join makes a choice that of this place for a demand of the kind.
func (s *square) join(c choice, kind, number, place int) {
	d := kind*s.cells() + number
	s.demands[c][kind] = demand(d)
	s.choices[d][place] = c
}

func (s *square) cells() int { return s.n * s.n }

func (s *square) choice(cell, number int) choice { return choice(cell*s.n + number - 1) }

func (s *square) choicesFor(d demand) []choice { return s.choices[d][:s.n] }

func (s *square) isSolution(cells []int) bool {
	_, fit := s.given(cells)
	return fit && areFrom(1, cells, s.n)
}
