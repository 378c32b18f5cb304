// Package board: positions as texts and numbers: see doc/01-board.md.
package board

import (
	"strings"

	"parlour/api"
)

// Check: P3.
func Check(p api.Position) api.Errno {
	if !isSide(p.W) || !isSide(p.H) || !areCells(p.Cells, p.W*p.H) {
		return api.ErrArg
	}
	if p.Turn != 0 && p.Turn != 1 {
		return api.ErrArg
	}
	if !isHand(p.Hands[0]) || !isHand(p.Hands[1]) {
		return api.ErrArg
	}
	return api.OK
}

func isSide(n int) bool { return 1 <= n && n <= api.MaxSide }

func areCells(s string, n int) bool {
	if len(s) != n {
		return false
	}
	for i := range len(s) {
		if !isCell(s[i]) {
			return false
		}
	}
	return true
}

func isHand(s string) bool {
	if len(s) > api.MaxHand {
		return false
	}
	least := byte('A')
	for i := range len(s) {
		if !isCapital(s[i]) || s[i] < least {
			return false
		}
		least = s[i]
	}
	return true
}

// copied: an answer shares no memory with what was handed in (P2), texts included.
func copied(hands [2]string) [2]string {
	return [2]string{strings.Clone(hands[0]), strings.Clone(hands[1])}
}
