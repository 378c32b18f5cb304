package matrix

import "strconv"

// fraction is n/d in lowest terms; d is above 0.
func fraction(n, d int64) string {
	common := divisor(max(n, -n), d)
	text := strconv.FormatInt(n/common, 10)
	if d == common {
		return text
	}
	return text + "/" + strconv.FormatInt(d/common, 10)
}

// divisor is the greatest one of both.
func divisor(a, b int64) int64 {
	for b != 0 {
		a, b = b, a%b
	}
	return a
}
