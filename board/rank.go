package board

import "parlour/api"

// maxCount is the greatest number of Cells of one kind that is not too large.
const maxCount = 1 << 60

// Count: P4.
func Count(p api.Position) (int64, api.Errno) {
	if err := Check(p); err != api.OK {
		return 0, err
	}
	counts := make([]int64, 256)
	total := int64(1)
	for i := range len(p.Cells) {
		c, cells := p.Cells[i], int64(i+1)
		counts[c]++
		// One cell more never makes fewer of a kind, so what is too large stays so.
		// The first question sees to it that the second one does not overflow.
		if total/counts[c] > maxCount/cells || share(total, cells, counts[c]) > maxCount {
			return 0, api.ErrLarge
		}
		total = share(total, cells, counts[c])
	}
	return total, api.OK
}

// share is n times a by b, where that comes out even. n is divided first: n
// times a itself may be more than 64 bits hold.
func share(n, a, b int64) int64 { return n/b*a + n%b*a/b }

func tally(cells string) []int64 {
	counts := make([]int64, 256)
	for i := range len(cells) {
		counts[cells[i]]++
	}
	return counts
}

// Rank: P4.
func Rank(p api.Position) (int64, api.Errno) {
	total, err := Count(p)
	if err != api.OK {
		return 0, err
	}
	counts := tally(p.Cells)
	less := int64(0)
	for i := range len(p.Cells) {
		c, left := p.Cells[i], int64(len(p.Cells)-i)
		less += share(total, below(counts, c), left)
		total = share(total, counts[c], left)
		counts[c]--
	}
	return 2*less + int64(p.Turn), api.OK
}

func below(counts []int64, c byte) int64 {
	sum := int64(0)
	for _, n := range counts[:c] {
		sum += n
	}
	return sum
}

// Unrank: P4.
func Unrank(like api.Position, n int64) (api.Position, api.Errno) {
	total, err := Count(like)
	if err != api.OK {
		return api.Position{}, err
	}
	if n < 0 || n >= 2*total {
		return api.Position{}, api.ErrRange
	}
	return api.Position{
		W:     like.W,
		H:     like.H,
		Cells: nthCells(like.Cells, total, n/2),
		Turn:  int(n % 2),
		Hands: copied(like.Hands),
	}, api.OK
}

// nthCells answers those of the kind of cells ahead of which there are n, of
// total in all.
func nthCells(cells string, total, n int64) string {
	counts := tally(cells)
	nth := make([]byte, len(cells))
	for i := range nth {
		left := int64(len(cells) - i)
		c := byte(Empty)
		size := share(total, counts[c], left)
		// n is below total, the sum of all sizes: one of the letters is the one.
		for n >= size {
			n -= size
			c++
			size = share(total, counts[c], left)
		}
		nth[i] = c
		total = size
		counts[c]--
	}
	return string(nth)
}
