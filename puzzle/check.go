package puzzle

// What P29 and P30 let a puzzle have, and a call tell, at most.
const (
	maxLines     = 3
	maxNumber    = maxLines * maxLines
	maxCells     = maxNumber * maxNumber
	maxSolutions = 20
)

func isPuzzle(rows, columns int, cells []int) bool {
	if !isFrom(1, rows, maxLines) || !isFrom(1, columns, maxLines) {
		return false
	}
	n := rows * columns
	return len(cells) == n*n && areFrom(0, cells, n)
}

func areFrom(least int, l []int, most int) bool {
	for _, n := range l {
		if !isFrom(least, n, most) {
			return false
		}
	}
	return true
}

func isFrom(least, n, most int) bool { return least <= n && n <= most }
