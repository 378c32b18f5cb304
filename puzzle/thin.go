package puzzle

import "slices"

// thinned is what is left of a solution if numbers are taken away in this order.
// A cell that comes again is passed over: where its number was put back once, it
// would be again, for a puzzle has no fewer solutions with fewer numbers.
func (s *square) thinned(full, order []int) []int {
	cells := slices.Clone(full)
	var seen [maxCells]bool
	for _, cell := range order {
		if seen[cell] {
			continue
		}
		seen[cell] = true
		cells[cell] = 0
		if s.isOther(cells, cell, full[cell]) {
			cells[cell] = full[cell]
		}
	}
	return cells
}

// isOther: there is a solution with another number in the cell than this one. If a
// puzzle with one solution has lost this number, each further one is such.
func (s *square) isOther(cells []int, cell, number int) bool {
	// What is left of a solution always fits.
	t, _ := s.given(cells)
	s.drop(&t, s.choice(cell, number))
	return newHunt(s).isSolvable(t)
}
