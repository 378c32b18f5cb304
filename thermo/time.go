package thermo

import "strings"

// What P23 lets a t be at most, and the d of one.
const (
	maxTime     = 100
	maxDivision = 4096
)

// fraction is n/d in lowest terms.
type fraction struct{ n, d int64 }

// readTime: not ok, if the text is no fraction that may be a t. Of each there is
// one text alone: what is whole has no d.
func readTime(s string) (t fraction, ok bool) {
	top, bottom, isBroken := strings.Cut(s, "/")
	if !isBroken {
		bottom = "1"
	}
	n, isNumber := readNumber(top)
	d, isDivision := readNumber(bottom)
	switch {
	case !isNumber || !isDivision || isBroken && d < 2:
		return fraction{}, false
	case divisor(n, d) > 1 || d > maxDivision || n > maxTime*d:
		return fraction{}, false
	}
	return fraction{n, d}, true
}

// readNumber: not ok, if the text is none, or longer than any part of a t.
func readNumber(s string) (n int64, ok bool) {
	const longest = len("409600")
	if s == "" || len(s) > longest || s[0] == '0' && s != "0" {
		return 0, false
	}
	for i := range len(s) {
		if s[i] < '0' || s[i] > '9' {
			return 0, false
		}
		n = 10*n + int64(s[i]-'0')
	}
	return n, true
}
