package board

import (
	"cmp"
	"strings"

	"parlour/api"
)

// The bits of a turn, in the promise's words: which two change places.
const (
	leftRight   = 1
	bottomTop   = 2
	columnsRows = 4
	allTurns    = 8
)

// Turned: P5.
func Turned(p api.Position, k int) (api.Position, api.Errno) {
	if Check(p) != api.OK || !isTurn(k) {
		return api.Position{}, api.ErrArg
	}
	return turned(p, k), api.OK
}

func isTurn(k int) bool { return 0 <= k && k < allTurns }

func turned(p api.Position, k int) api.Position {
	w, h := p.W, p.H
	if k&columnsRows != 0 {
		w, h = h, w
	}
	cells := make([]byte, 0, w*h)
	for y := range h {
		for x := range w {
			cells = append(cells, p.Cells[origin(p, k, x, y)])
		}
	}
	return api.Position{W: w, H: h, Cells: string(cells), Turn: p.Turn, Hands: copied(p.Hands)}
}

// origin is the number of the cell of p that comes to x, y: what a turn does
// is undone here, so its steps stand in the opposite order.
func origin(p api.Position, k, x, y int) int {
	w, h := p.W, p.H
	if k&columnsRows != 0 {
		w, h = h, w
	}
	if k&bottomTop != 0 {
		y = h - 1 - y
	}
	if k&leftRight != 0 {
		x = w - 1 - x
	}
	if k&columnsRows != 0 {
		x, y = y, x
	}
	return y*p.W + x
}

// Least: P5.
func Least(p api.Position, ks []int) (api.Position, int, api.Errno) {
	if Check(p) != api.OK || !areTurns(ks) {
		return api.Position{}, 0, api.ErrArg
	}
	best, with := turned(p, ks[0]), ks[0]
	tried := 1 << ks[0]
	for _, k := range ks {
		// A long list has no more than eight different turns in it.
		if tried&(1<<k) != 0 {
			continue
		}
		tried |= 1 << k
		if q := turned(p, k); compare(q, best) < 0 {
			best, with = q, k
		}
	}
	return best, with, api.OK
}

func areTurns(ks []int) bool {
	for _, k := range ks {
		if !isTurn(k) {
			return false
		}
	}
	return len(ks) > 0
}

func compare(a, b api.Position) int {
	return cmp.Or(cmp.Compare(a.W, b.W), cmp.Compare(a.H, b.H), strings.Compare(a.Cells, b.Cells))
}

// Swapped: P5.
func Swapped(p api.Position) (api.Position, api.Errno) {
	if err := Check(p); err != api.OK {
		return api.Position{}, err
	}
	q := turned(p, bottomTop)
	q.Cells = otherCase(q.Cells)
	q.Turn = 1 - p.Turn
	q.Hands[0], q.Hands[1] = q.Hands[1], q.Hands[0]
	return q, api.OK
}

func otherCase(cells string) string {
	others := []byte(cells)
	for i, c := range others {
		if c != Empty {
			others[i] = c ^ caseBit
		}
	}
	return string(others)
}
