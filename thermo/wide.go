package thermo

import (
	"math/bits"
	"strconv"
	"strings"
)

// wide is a number from 0 on that may need more than 64 bits: units in 4096
// parts do.
type wide struct{ hi, lo uint64 }

// product: neither is below 0.
func product(a, b int64) wide {
	hi, lo := bits.Mul64(uint64(a), uint64(b))
	return wide{hi, lo}
}

// plus: x may be below 0, the sum is not.
func (w wide) plus(x int64) wide {
	if x < 0 {
		lo, borrow := bits.Sub64(w.lo, uint64(-x), 0)
		return wide{w.hi - borrow, lo}
	}
	lo, carry := bits.Add64(w.lo, uint64(x), 0)
	return wide{w.hi + carry, lo}
}

// over is how often d is in it, which is below 2^63, and what is left.
func (w wide) over(d int64) (quotient, rest int64) {
	q, r := bits.Div64(w.hi, w.lo, uint64(d))
	return int64(q), int64(r)
}

func (w wide) isBelow(x wide) bool { return w.hi < x.hi || w.hi == x.hi && w.lo < x.lo }

func (w wide) isEven() bool { return w.lo%2 == 0 }

func (w wide) half() wide { return wide{w.hi / 2, w.hi<<63 | w.lo/2} }

// text: the number is below 2^64 times 10^19, of which it has at most two parts.
func (w wide) text() string {
	const digits, part = 19, 10_000_000_000_000_000_000
	q, r := bits.Div64(w.hi, w.lo, part)
	s := strconv.FormatUint(r, 10)
	if q == 0 {
		return s
	}
	return strconv.FormatUint(q, 10) + strings.Repeat("0", digits-len(s)) + s
}
