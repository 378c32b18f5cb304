package record

import (
	"strings"
	"unicode/utf8"

	"parlour/api"
)

// none is the number of no note: the first ones come of it.
const none = -1

// Read: P11.
func Read(s string) ([]api.Note, api.Fault) {
	r := reader{rest: s, here: place{main: none}}
	if f := r.whole(); f.Code != api.OK {
		return nil, f
	}
	if err := r.size.check(); err != api.OK {
		return nil, api.Fault{Code: err, At: -1}
	}
	return r.notesOf(none), api.Fault{}
}

// reader goes through a text; at is how many runes are behind it. It keeps no
// more notes than a record may have, but goes on to look for faults.
type reader struct {
	rest string
	at   int
	kept []entry
	size size
	here place
	open []place
}

// entry is a note, as yet without its Next, and the number of the one that it
// comes of.
type entry struct {
	note api.Note
	of   int
}

// place is where a text goes on: behind which note, how deep that one is, what
// that one comes of, whether there may be others beside it.
type place struct {
	main, depth, of int
	others          bool
}

// whole reads the text to its end, or up to where it can not go on.
func (r *reader) whole() (f api.Fault) {
	defer func() {
		if thrown := recover(); thrown != nil {
			f = thrown.(api.Fault)
		}
	}()
	for r.part() {
	}
	return f
}

// fail leaves the reading, however deep in it.
func (r *reader) fail() {
	panic(api.Fault{Code: api.ErrSyntax, At: r.at})
}

// part reads what comes next, if the text does not end here.
func (r *reader) part() bool {
	r.blanks()
	c := r.peek()
	switch {
	case isOfMove(c):
		r.next()
	case c == '(' && r.here.others:
		r.branch()
	case c == ')' && len(r.open) > 0:
		r.back()
	case c == end && len(r.open) == 0:
		return false
	default:
		r.fail()
	}
	return true
}

func (r *reader) next() {
	of, depth := r.here.main, r.here.depth+1
	r.here = place{main: r.note(of, depth), depth: depth, of: of, others: true}
}

// branch: what else might be done stands alone in its brackets, so there are
// no others beside it.
func (r *reader) branch() {
	r.take('(')
	r.blanks()
	if !isOfMove(r.peek()) {
		r.fail()
	}
	r.open = append(r.open, r.here)
	of, depth := r.here.of, r.here.depth
	r.here = place{main: r.note(of, depth), depth: depth, of: of}
}

func (r *reader) back() {
	r.take(')')
	last := len(r.open) - 1
	r.here, r.open = r.open[last], r.open[:last]
}

// note reads a move, and a comment if there is one, and answers its number.
func (r *reader) note(of, depth int) int {
	n := api.Note{Move: r.text(maxMove, isOfMove)}
	r.blanks()
	if r.peek() == '{' {
		r.take('{')
		n.Comment = r.text(maxComment, isOfComment)
		r.take('}')
	}
	number := r.size.notes
	r.size.add(depth)
	if number < maxNotes {
		r.kept = append(r.kept, entry{note: n, of: of})
	}
	return number
}

// text reads as long as the runes fit, and no longer than they may.
func (r *reader) text(most int, fits func(rune) bool) string {
	whole := r.rest
	for runes := 0; fits(r.peek()); runes++ {
		if runes == most {
			r.fail()
		}
		r.step()
	}
	return whole[:len(whole)-len(r.rest)]
}

func (r *reader) blanks() {
	for r.peek() == ' ' || r.peek() == '\n' {
		r.step()
	}
}

func (r *reader) take(c rune) {
	if r.peek() != c {
		r.fail()
	}
	r.step()
}

func (r *reader) peek() rune {
	c, bytes := utf8.DecodeRuneInString(r.rest)
	if c != utf8.RuneError || bytes > 1 {
		return c
	}
	if bytes == 0 {
		return end
	}
	return bad
}

func (r *reader) step() {
	_, bytes := utf8.DecodeRuneInString(r.rest)
	r.rest = r.rest[bytes:]
	r.at++
}

// notesOf are the notes that come of one, each with its Next. All that come of
// a note stand behind it.
func (r *reader) notesOf(number int) []api.Note {
	var l []api.Note
	for i := number + 1; i < len(r.kept); i++ {
		if r.kept[i].of != number {
			continue
		}
		n := r.kept[i].note
		l = append(l, api.Note{Move: strings.Clone(n.Move), Comment: strings.Clone(n.Comment), Next: r.notesOf(i)})
	}
	return l
}
