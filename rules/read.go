package rules

import (
	"strings"

	"parlour/api"
	"parlour/board"
)

// Kinds of lines, in the order in which they stand.
const (
	noLine = iota
	startLine
	pieceLine
	dropsLine
	loseLine
	lineLine
	reachLine
	stuckLine
	pliesLine
)

// Read: P7.
func Read(s string) (api.Rules, api.Fault) {
	var r reader
	lines := 0
	for s != "" {
		line, rest, ended := strings.Cut(s, lineEnd)
		if !ended || !r.line(line) {
			return api.Rules{}, api.Fault{Code: api.ErrSyntax, At: lines}
		}
		s = rest
		lines++
	}
	if r.last != pliesLine {
		return api.Rules{}, api.Fault{Code: api.ErrSyntax, At: lines}
	}
	if err := Check(r.rules); err != api.OK {
		return api.Rules{}, api.Fault{Code: err, At: -1}
	}
	return r.rules, api.Fault{}
}

// reader has what the lines so far say, and the kind of the last one.
type reader struct {
	rules api.Rules
	last  int
}

func (r *reader) line(line string) (ok bool) {
	word, rest, more := strings.Cut(line, " ")
	kind := lineKind(word)
	if !mayFollow(r.last, kind) {
		return false
	}
	r.last = kind
	switch kind {
	case startLine:
		var f api.Fault
		r.rules.Start, f = board.Read(rest)
		return f.Code == api.OK
	case pieceLine:
		return r.piece(rest)
	case dropsLine:
		r.rules.Drops = true
		return !more
	case loseLine:
		r.rules.Lose, ok = readLetter(rest)
	case lineLine:
		r.rules.Line, ok = readNumber(rest)
		// A line of 0 is told by leaving it out.
		return ok && r.rules.Line > 0
	case reachLine:
		r.rules.Reach, ok = readLetter(rest)
	case stuckLine:
		r.rules.Stuck = true
		return !more
	case pliesLine:
		r.rules.Plies, ok = readNumber(rest)
	}
	return ok
}

func lineKind(word string) int {
	switch word {
	case wordStart:
		return startLine
	case wordPiece:
		return pieceLine
	case wordDrops:
		return dropsLine
	case wordLose:
		return loseLine
	case wordLine:
		return lineLine
	case wordReach:
		return reachLine
	case wordStuck:
		return stuckLine
	case wordPlies:
		return pliesLine
	}
	return noLine
}

func mayFollow(last, kind int) bool {
	switch last {
	case noLine:
		return kind == startLine
	case startLine:
		return kind == pieceLine
	case pieceLine:
		return kind >= pieceLine
	}
	return kind > last
}

func (r *reader) piece(text string) bool {
	head, ways, more := strings.Cut(text, aheadWays)
	letter, worth, _ := strings.Cut(head, " ")
	var p api.Piece
	var isLetter, isNumber bool
	p.Letter, isLetter = readLetter(letter)
	p.Worth, isNumber = readNumber(worth)
	if !isLetter || !isNumber {
		return false
	}
	for more {
		var way string
		way, ways, more = strings.Cut(ways, betweenWays)
		w, ok := readWay(way)
		if !ok {
			return false
		}
		p.Ways = appendUpTo(p.Ways, w, maxWays+1)
	}
	r.rules.Pieces = appendUpTo(r.rules.Pieces, p, maxPieces+1)
	return true
}

// appendUpTo drops what is beyond most: one too many is wrong already, and a
// long text is not to take many times its own room.
func appendUpTo[T any](list []T, item T, most int) []T {
	if len(list) == most {
		return list
	}
	return append(list, item)
}

func readWay(text string) (w api.Way, ok bool) {
	// No word has a blank in it, so a fourth one that has is found to be wrong.
	words := strings.SplitN(text, " ", 4)
	if len(words) < 3 {
		return w, false
	}
	if w.Kind, ok = readKind(words[0]); !ok {
		return w, false
	}
	if w.X, ok = readNumber(words[1]); !ok {
		return w, false
	}
	if w.Y, ok = readNumber(words[2]); !ok {
		return w, false
	}
	if len(words) == 4 {
		w.Take, ok = readTake(words[3])
	}
	return w, ok
}

func readKind(word string) (int, bool) {
	switch word {
	case wordLeap:
		return api.Leap, true
	case wordSlide:
		return api.Slide, true
	case wordStep:
		return api.Step, true
	}
	return 0, false
}

func readTake(word string) (int, bool) {
	switch word {
	case wordTake:
		return api.Take, true
	case wordQuiet:
		return api.Quiet, true
	}
	return 0, false
}

func readLetter(word string) (byte, bool) {
	if len(word) != 1 || !isCapital(word[0]) {
		return 0, false
	}
	return word[0], true
}

// readNumber reads one from 0 to 9999: of four digits at most.
func readNumber(word string) (int, bool) {
	if len(word) < 1 || len(word) > 4 || word[0] == '0' && len(word) > 1 {
		return 0, false
	}
	n := 0
	for i := range len(word) {
		c := word[i]
		if c < '0' || c > '9' {
			return 0, false
		}
		n = 10*n + int(c-'0')
	}
	return n, true
}
