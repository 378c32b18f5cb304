package moves

import (
	"parlour/api"
	"parlour/board"
	"parlour/rules"
)

// What stands ahead of the cell that a piece comes to.
const (
	goes  = '-'
	takes = 'x'
	puts  = '@'
)

// Text: P10.
func Text(r api.Rules, p api.Position, m api.Move) (string, api.Errno) {
	if err := check(r, p, m); err != api.OK {
		return "", err
	}
	return text(p, m), api.OK
}

func text(p api.Position, m api.Move) string {
	b := []byte{m.Piece}
	if m.From == outOfHand {
		b = append(b, puts)
		return string(appendCell(b, p, m.To))
	}
	b = appendCell(b, p, m.From)
	if p.Cells[m.To] == board.Empty {
		b = append(b, goes)
	} else {
		b = append(b, takes)
	}
	return string(appendCell(b, p, m.To))
}

// appendCell: one letter and one digit will do, since no side is above 8.
func appendCell(b []byte, p api.Position, cell int) []byte {
	return append(b, 'a'+byte(cell%p.W), '1'+byte(cell/p.W))
}

// Read: P10.
func Read(r api.Rules, p api.Position, s string) (api.Move, api.Errno) {
	if err := rules.CheckPosition(r, p); err != api.OK {
		return api.Move{}, err
	}
	for _, m := range list(r, p) {
		if text(p, m) == s {
			return m, api.OK
		}
	}
	return api.Move{}, api.ErrMove
}
