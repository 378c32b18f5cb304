package chance

import (
	"cmp"
	"slices"
	"strconv"
	"strings"
)

// natural is a number from 0 on, of any size: its parts of 32 bits, the least
// first, the last of which is not 0. Two of them fit into 64 bits.
type natural []uint32

const partBits = 32

func trimmed(a natural) natural {
	for len(a) > 0 && a[len(a)-1] == 0 {
		a = a[:len(a)-1]
	}
	return a
}

func (a natural) times(x uint32) natural {
	product := make(natural, len(a)+1)
	var carry uint64
	for i, part := range a {
		carry += uint64(part) * uint64(x)
		product[i] = uint32(carry)
		carry >>= partBits
	}
	product[len(a)] = uint32(carry)
	return trimmed(product)
}

func (a natural) plus(b natural) natural {
	sum := make(natural, max(len(a), len(b))+1)
	copy(sum, a)
	var carry uint64
	for i := range sum {
		carry += uint64(sum[i])
		if i < len(b) {
			carry += uint64(b[i])
		}
		sum[i] = uint32(carry)
		carry >>= partBits
	}
	return trimmed(sum)
}

// minus: b is not above a.
func (a natural) minus(b natural) natural {
	rest := make(natural, len(a))
	var borrow uint64
	for i, part := range a {
		less := borrow
		if i < len(b) {
			less += uint64(b[i])
		}
		rest[i] = uint32(uint64(part) - less)
		borrow = 0
		if uint64(part) < less {
			borrow = 1
		}
	}
	return trimmed(rest)
}

// over is how often x, which is not 0, is in it, and what is left.
func (a natural) over(x uint32) (quotient natural, rest uint32) {
	quotient = make(natural, len(a))
	var left uint64
	for i, part := range slices.Backward(a) {
		left = left<<partBits | uint64(part)
		quotient[i] = uint32(left / uint64(x))
		left %= uint64(x)
	}
	return trimmed(quotient), uint32(left)
}

// compare is below 0 if a is below b, above 0 if it is above.
func (a natural) compare(b natural) int {
	if len(a) != len(b) {
		return cmp.Compare(len(a), len(b))
	}
	for i, part := range slices.Backward(a) {
		if part != b[i] {
			return cmp.Compare(part, b[i])
		}
	}
	return 0
}

func (a natural) text() string {
	const digits, group = 9, 1_000_000_000
	text := ""
	for {
		high, low := a.over(group)
		s := strconv.FormatUint(uint64(low), 10)
		if len(high) == 0 {
			return s + text
		}
		text = strings.Repeat("0", digits-len(s)) + s + text
		a = high
	}
}
