package matrix

import (
	"iter"
	"slices"
)

// solution is a value and two mixes, all of them in parts of total.
type solution struct {
	value, total  int64
	rows, columns [maxLines]int64
}

// solutionOf looks at the square parts of a matrix for one whose own solution is
// that of all of it. Shapley and Snow: there is one, such that all of the part's
// rows are worth the same to the second player, all its columns to the first one.
func solutionOf(a [][]int) solution {
	m := minorsOf(a)
	for rows, columns := range parts(a) {
		if s := m.level(rows, columns); s.holds(a) {
			return s
		}
	}
	return solution{}
}

// parts are the rows and the columns of all square parts.
func parts(a [][]int) iter.Seq2[set, set] {
	return func(yield func(rows, columns set) bool) {
		for rows := set(1); rows <= firsts(len(a)); rows++ {
			for columns := set(1); columns <= firsts(len(a[0])); columns++ {
				if rows.size() == columns.size() && !yield(rows, columns) {
					return
				}
			}
		}
	}
}

// level is what makes all rows and all columns of a part worth the same, by
// Cramer's rule. Its total is 0 where nothing does, or more than one thing; what
// it has for a row or a column may be below 0.
func (m *minors) level(rows, columns set) solution {
	s := solution{value: m[rows][columns]}
	for i := range rows.members() {
		for j := range columns.members() {
			x := m.cofactor(rows, columns, i, j)
			s.rows[i] += x
			s.columns[j] += x
			s.total += x
		}
	}
	if s.total < 0 {
		return s.turned()
	}
	return s
}

// turned has all signs turned, which leaves its fractions as they are.
func (s solution) turned() solution {
	s.value, s.total = -s.value, -s.total
	for i := range maxLines {
		s.rows[i], s.columns[i] = -s.rows[i], -s.columns[i]
	}
	return s
}

// holds: they are mixes, and each player has what the value says with his, against
// whatever the other one does.
func (s solution) holds(a [][]int) bool {
	if s.total == 0 || slices.Min(s.rows[:]) < 0 || slices.Min(s.columns[:]) < 0 {
		return false
	}
	var gains [maxLines]int64
	for i, line := range a {
		var loss int64
		for j, n := range line {
			gains[j] += int64(n) * s.rows[i]
			loss += int64(n) * s.columns[j]
		}
		if loss > s.value {
			return false
		}
	}
	for j := range a[0] {
		if gains[j] < s.value {
			return false
		}
	}
	return true
}

func (s solution) texts(mix []int64) []string {
	l := make([]string, len(mix))
	for i, n := range mix {
		l[i] = fraction(n, s.total)
	}
	return l
}
