package house

import (
	"strconv"
	"strings"

	"parlour/api"
)

// What stands behind each line of what is saved, and between its words.
const (
	lineEnd = "\n"
	blank   = " "
)

func lineOf(ply, now int, move string) string {
	return strconv.Itoa(ply) + blank + strconv.Itoa(now) + blank + move + lineEnd
}

// takeLine makes the move of a line, if it is one that would be saved here. A
// message that is not Done may let time go by, and even end the game: so it is
// tried on a copy.
func (h *House) takeLine(line string) bool {
	m, ok := messageOf(line)
	if !ok {
		return false
	}
	m.Seat = h.pos.Turn
	next := *h
	if next.take(m) != api.Done || lineOf(m.Ply, next.now, m.Move) != line+lineEnd {
		return false
	}
	*h = next
	return true
}

// messageOf also reads lines that are written in another way than saved ones.
func messageOf(line string) (api.Msg, bool) {
	ply, rest, _ := strings.Cut(line, blank)
	at, move, _ := strings.Cut(rest, blank)
	p, badPly := strconv.Atoi(ply)
	now, badAt := strconv.Atoi(at)
	return api.Msg{Ply: p, Move: move, At: now}, badPly == nil && badAt == nil
}
