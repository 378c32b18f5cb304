package matrix

import "slices"

// What P25 lets a matrix have at most.
const (
	maxLines  = 6
	maxNumber = 100
)

func isMatrix(a [][]int) bool {
	if !isFrom(1, len(a), maxLines) || !isFrom(1, len(a[0]), maxLines) {
		return false
	}
	for _, line := range a {
		if len(line) != len(a[0]) || !areNumbers(line) {
			return false
		}
	}
	return true
}

func areNumbers(line []int) bool {
	for _, n := range line {
		if !isFrom(-maxNumber, n, maxNumber) {
			return false
		}
	}
	return true
}

func isFrom(least, n, most int) bool { return least <= n && n <= most }

func isSaddle(a [][]int, row, column int) bool {
	n := a[row][column]
	if n != slices.Min(a[row]) {
		return false
	}
	for _, line := range a {
		if line[column] > n {
			return false
		}
	}
	return true
}
