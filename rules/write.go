package rules

import (
	"strconv"
	"strings"

	"parlour/api"
	"parlour/board"
)

// The words of the language: those that lines begin with, those of ways.
const (
	wordStart = "start"
	wordPiece = "piece"
	wordDrops = "drops"
	wordLose  = "lose"
	wordLine  = "line"
	wordReach = "reach"
	wordStuck = "stuck"
	wordPlies = "plies"

	wordLeap  = "leap"
	wordSlide = "slide"
	wordStep  = "step"
	wordTake  = "take"
	wordQuiet = "quiet"
)

const (
	lineEnd     = "\n"
	aheadWays   = ": "
	betweenWays = ", "
)

// Write: P7.
func Write(r api.Rules) (string, api.Errno) {
	if err := Check(r); err != api.OK {
		return "", err
	}
	// Check has seen that it is a position.
	start, _ := board.Write(r.Start)
	var b strings.Builder
	writeLine(&b, wordStart, start)
	for _, p := range r.Pieces {
		writeLine(&b, wordPiece, pieceText(p))
	}
	if r.Drops {
		writeLine(&b, wordDrops)
	}
	if r.Lose != 0 {
		writeLine(&b, wordLose, letterText(r.Lose))
	}
	if r.Line != 0 {
		writeLine(&b, wordLine, strconv.Itoa(r.Line))
	}
	if r.Reach != 0 {
		writeLine(&b, wordReach, letterText(r.Reach))
	}
	if r.Stuck {
		writeLine(&b, wordStuck)
	}
	writeLine(&b, wordPlies, strconv.Itoa(r.Plies))
	return b.String(), api.OK
}

func writeLine(b *strings.Builder, words ...string) {
	b.WriteString(strings.Join(words, " "))
	b.WriteString(lineEnd)
}

func letterText(c byte) string { return string([]byte{c}) }

func pieceText(p api.Piece) string {
	text := letterText(p.Letter) + " " + strconv.Itoa(p.Worth)
	if len(p.Ways) == 0 {
		return text
	}
	ways := make([]string, len(p.Ways))
	for i, w := range p.Ways {
		ways[i] = wayText(w)
	}
	return text + aheadWays + strings.Join(ways, betweenWays)
}

func wayText(w api.Way) string {
	text := kindText(w.Kind) + " " + strconv.Itoa(w.X) + " " + strconv.Itoa(w.Y)
	switch w.Take {
	case api.Take:
		return text + " " + wordTake
	case api.Quiet:
		return text + " " + wordQuiet
	}
	return text
}

func kindText(kind int) string {
	switch kind {
	case api.Leap:
		return wordLeap
	case api.Slide:
		return wordSlide
	}
	return wordStep
}
