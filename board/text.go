package board

import (
	"strings"

	"parlour/api"
)

const noHand = '-'

// Write: P3.
func Write(p api.Position) (string, api.Errno) {
	if err := Check(p); err != api.OK {
		return "", err
	}
	var b strings.Builder
	for y := p.H - 1; y >= 0; y-- {
		b.WriteString(p.Cells[y*p.W : (y+1)*p.W])
		if y > 0 {
			b.WriteByte('/')
		}
	}
	if p.Turn == 0 {
		b.WriteString(" w ")
	} else {
		b.WriteString(" b ")
	}
	writeHand(&b, p.Hands[0])
	b.WriteByte('/')
	writeHand(&b, p.Hands[1])
	return b.String(), api.OK
}

func writeHand(b *strings.Builder, hand string) {
	if hand == "" {
		b.WriteByte(noHand)
		return
	}
	b.WriteString(hand)
}

// Read: P3.
func Read(s string) (api.Position, api.Fault) {
	r := reader{text: s}
	p, ok := r.position()
	if !ok || r.at < len(s) {
		return api.Position{}, api.Fault{Code: api.ErrSyntax, At: r.at}
	}
	return p, api.Fault{}
}

// reader goes through a text and never steps over a byte that can not stand
// where it is: whenever one of its methods says no, at is where the fault is.
type reader struct {
	text string
	at   int
}

// peek answers 0 at the end: that byte may stand nowhere.
func (r *reader) peek() byte {
	if r.at >= len(r.text) {
		return 0
	}
	return r.text[r.at]
}

func (r *reader) take(c byte) bool {
	if r.peek() != c {
		return false
	}
	r.at++
	return true
}

func (r *reader) position() (p api.Position, ok bool) {
	rows, ok := r.rows()
	if !ok || !r.take(' ') {
		return p, false
	}
	p.W, p.H, p.Cells = len(rows[0]), len(rows), fromBottom(rows)
	if p.Turn, ok = r.turn(); !ok || !r.take(' ') {
		return p, false
	}
	if p.Hands[0], ok = r.hand(); !ok || !r.take('/') {
		return p, false
	}
	p.Hands[1], ok = r.hand()
	return p, ok
}

// rows reads the rows from the top one on; the first one tells how long all are.
func (r *reader) rows() ([]string, bool) {
	var rows []string
	least, most := 1, api.MaxSide
	for {
		row := r.row(most)
		if len(row) < least {
			return nil, false
		}
		least, most = len(row), len(row)
		rows = append(rows, row)
		if len(rows) == api.MaxSide || !r.take('/') {
			return rows, true
		}
	}
}

func (r *reader) row(most int) string {
	from := r.at
	for r.at-from < most && isCell(r.peek()) {
		r.at++
	}
	return r.text[from:r.at]
}

func fromBottom(rows []string) string {
	var b strings.Builder
	for y := len(rows) - 1; y >= 0; y-- {
		b.WriteString(rows[y])
	}
	return b.String()
}

func (r *reader) turn() (int, bool) {
	if r.take('w') {
		return 0, true
	}
	return 1, r.take('b')
}

func (r *reader) hand() (string, bool) {
	if r.take(noHand) {
		return "", true
	}
	from, least := r.at, byte('A')
	for r.at-from < api.MaxHand && isCapital(r.peek()) && r.peek() >= least {
		least = r.peek()
		r.at++
	}
	return strings.Clone(r.text[from:r.at]), r.at > from
}
