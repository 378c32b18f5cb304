package matrix

import (
	"iter"
	"math/bits"
)

// set is some rows, or some columns: bit i is there for number i. What has some
// of a set's members, but not all, is a lesser number.
type set uint

// firsts is the set of so many numbers from 0 on.
func firsts(n int) set { return 1<<n - 1 }

func (s set) size() int { return bits.OnesCount(uint(s)) }

func (s set) first() int { return bits.TrailingZeros(uint(s)) }

func (s set) without(i int) set { return s &^ (1 << i) }

// place is how many members are ahead of i.
func (s set) place(i int) int { return (s & firsts(i)).size() }

func (s set) members() iter.Seq[int] {
	return func(yield func(int) bool) {
		for rest := s; rest != 0; rest = rest.without(rest.first()) {
			if !yield(rest.first()) {
				return
			}
		}
	}
}
