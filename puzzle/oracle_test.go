package puzzle_test

import (
	"math/rand"
	"slices"
)

// size is of a box.
type size struct{ rows, columns int }

func (s size) n() int { return s.rows * s.columns }

func (s size) cells() int { return s.n() * s.n() }

func sizes() []size {
	var l []size
	for rows := 1; rows <= 3; rows++ {
		for columns := 1; columns <= 3; columns++ {
			l = append(l, size{rows, columns})
		}
	}
	return l
}

// groups are the cells of each row, each column and each box; a box is told by its
// first cell.
func (s size) groups() [][]int {
	var l [][]int
	n := s.n()
	for i := range n {
		var row, column []int
		for k := range n {
			row = append(row, i*n+k)
			column = append(column, k*n+i)
		}
		l = append(l, row, column)
	}
	for top := 0; top < n; top += s.rows {
		for left := 0; left < n; left += s.columns {
			var box []int
			for r := range s.rows {
				for c := range s.columns {
					box = append(box, (top+r)*n+left+c)
				}
			}
			l = append(l, box)
		}
	}
	return l
}

// peers are for each cell those that may not have the same number.
func (s size) peers() [][]int {
	l := make([][]int, s.cells())
	for _, group := range s.groups() {
		for _, a := range group {
			for _, b := range group {
				if a != b && !slices.Contains(l[a], b) {
					l[a] = append(l[a], b)
				}
			}
		}
	}
	return l
}

// solves: straight from P29's words.
func (s size) solves(puzzle, full []int) bool {
	if len(full) != s.cells() {
		return false
	}
	for i, x := range full {
		if x < 1 || x > s.n() || puzzle[i] != 0 && puzzle[i] != x {
			return false
		}
	}
	for _, group := range s.groups() {
		for x := 1; x <= s.n(); x++ {
			count := 0
			for _, cell := range group {
				if full[cell] == x {
					count++
				}
			}
			if count != 1 {
				return false
			}
		}
	}
	return true
}

// plain goes through the cells in their order, with each number in its order.
func (s size) plain(puzzle []int, most int) [][]int {
	var found [][]int
	peers, cells := s.peers(), slices.Clone(puzzle)
	free := func(cell, x int) bool {
		return !slices.ContainsFunc(peers[cell], func(peer int) bool { return cells[peer] == x })
	}
	var from func(cell int)
	from = func(cell int) {
		if cell == len(cells) {
			found = append(found, slices.Clone(cells))
			return
		}
		for x := 1; x <= s.n() && len(found) < most; x++ {
			if (puzzle[cell] == 0 || puzzle[cell] == x) && free(cell, x) {
				cells[cell] = x
				from(cell + 1)
			}
		}
		cells[cell] = puzzle[cell]
	}
	from(0)
	return found
}

// count is how many solutions there are, up to most. It looks first at cells with
// the fewest numbers that can be there.
func (s size) count(puzzle []int, most int) int {
	peers, cells := s.peers(), slices.Clone(puzzle)
	for cell, x := range cells {
		if x != 0 && slices.ContainsFunc(peers[cell], func(peer int) bool { return cells[peer] == x }) {
			return 0
		}
	}
	var below func() int
	below = func() int {
		at, best := -1, []int(nil)
		for cell := range cells {
			if cells[cell] != 0 {
				continue
			}
			var can []int
			for x := 1; x <= s.n(); x++ {
				if !slices.ContainsFunc(peers[cell], func(peer int) bool { return cells[peer] == x }) {
					can = append(can, x)
				}
			}
			if at < 0 || len(can) < len(best) {
				at, best = cell, can
			}
		}
		if at < 0 {
			return 1
		}
		n := 0
		for _, x := range best {
			cells[at] = x
			if n += below(); n >= most {
				break
			}
		}
		cells[at] = 0
		return min(n, most)
	}
	return below()
}

// thinned is P30's Make, by its words.
func (s size) thinned(full, order []int) []int {
	cells := slices.Clone(full)
	for _, cell := range order {
		had := cells[cell]
		cells[cell] = 0
		if s.count(cells, 2) > 1 {
			cells[cell] = had
		}
	}
	return cells
}

// anyFull is a solution of the empty puzzle.
func (s size) anyFull(rnd *rand.Rand) []int {
	n, full := s.n(), make([]int, s.cells())
	numbers := rnd.Perm(n)
	rows, columns := shuffledLines(rnd, s.rows, s.columns), shuffledLines(rnd, s.columns, s.rows)
	for i, row := range rows {
		for k, column := range columns {
			full[i*n+k] = 1 + numbers[(row%s.rows*s.columns+row/s.rows+column)%n]
		}
	}
	return full
}

// shuffledLines keeps those together that go through the same boxes.
func shuffledLines(rnd *rand.Rand, thick, bands int) []int {
	var l []int
	for _, band := range rnd.Perm(bands) {
		for _, i := range rnd.Perm(thick) {
			l = append(l, band*thick+i)
		}
	}
	return l
}

// emptied takes so many numbers away.
func emptied(rnd *rand.Rand, full []int, many int) []int {
	cells := slices.Clone(full)
	for _, cell := range rnd.Perm(len(full))[:many] {
		cells[cell] = 0
	}
	return cells
}

// digits are the numbers of a text, with dots for empty cells.
func digits(text string) []int {
	l := make([]int, len(text))
	for i, c := range text {
		if c != '.' {
			l[i] = int(c - '0')
		}
	}
	return l
}
