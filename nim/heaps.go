package nim

import (
	"slices"
	"strings"

	"parlour/api"
)

// What a digit's bits say may be left.
const (
	nothing = 1 << iota
	oneHeap
	twoHeaps
)

const maxDigits = 6

// taking is the digits of a code.
type taking string

func takingOf(code string) (taking, bool) {
	digits, ok := strings.CutPrefix(code, "0.")
	if !ok || len(digits) < 1 || len(digits) > maxDigits {
		return "", false
	}
	for i := range len(digits) {
		if digits[i] < '0' || digits[i] > '7' {
			return "", false
		}
	}
	return taking(digits), true
}

// each hands what may be left of a heap of n things to a function, way by way
// in the order in which Win looks for its move, until that says that it is
// enough.
func (t taking) each(n int, enough func(left ...int) bool) {
	for i := range min(n, len(t)) {
		may, rest := t[i]-'0', n-(i+1)
		if may&nothing != 0 && rest == 0 && enough() {
			return
		}
		if may&oneHeap != 0 && rest > 0 && enough(rest) {
			return
		}
		if may&twoHeaps == 0 {
			continue
		}
		for small := 1; small <= rest-small; small++ {
			if enough(small, rest-small) {
				return
			}
		}
	}
}

// worths are the values of heaps, by how many things they have.
type worths []int

// of is the value of several heaps.
func (w worths) of(heaps ...int) int {
	sum := 0
	for _, n := range heaps {
		sum ^= w[n]
	}
	return sum
}

// values are those of heaps of 0 to n things.
func (t taking) values(n int) worths {
	w := make(worths, 0, n+1)
	for size := range n + 1 {
		var behind []int
		t.each(size, func(left ...int) bool {
			behind = append(behind, w.of(left...))
			return false
		})
		w = append(w, leastMissing(behind))
	}
	return w
}

// win is the first move to a position with the value 0. There is one just if
// who is to move wins.
func (t taking) win(heaps []int) (api.Heaps, bool) {
	if len(heaps) == 0 {
		return api.Heaps{}, false
	}
	w := t.values(slices.Max(heaps))
	sum := w.of(heaps...)
	for i, n := range heaps {
		// What is left of this heap must be worth what all others are.
		if left, ok := t.leave(n, sum^w[n], w); ok {
			return api.Heaps{Heap: i, Left: left}, true
		}
	}
	return api.Heaps{}, false
}

// leave is the first way to leave of a heap what is worth so much.
func (t taking) leave(n, worth int, w worths) (first []int, ok bool) {
	t.each(n, func(left ...int) bool {
		if ok = w.of(left...) == worth; ok {
			first = slices.Clone(left)
		}
		return ok
	})
	return first, ok
}
