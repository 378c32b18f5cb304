package conway_test

import (
	"math/rand"
	"strings"
	"testing"

	"parlour/api"
	"parlour/conway"
)

// grammar says over again what P20 says: each line a word, and what it can be.
// Words are small letters; D is any digit, N one from 1 to 9, O an odd one, M one
// from 0 to 8, V the letter v; all else is itself.
const grammar = `
s t s+t s-t
t a -t
a n * *M ^ V {|} {l|} {|l} {l|l} (s)
l s l,s
n 0 N ND NDD O/d NO/d NDO/d
d 2 4 8 16 32 64`

func fits(c, letter byte) bool {
	switch letter {
	case 'D':
		return c >= '0' && c <= '9'
	case 'N':
		return c >= '1' && c <= '9'
	case 'O':
		return c >= '1' && c <= '9' && c%2 == 1
	case 'M':
		return c >= '0' && c <= '8'
	case 'V':
		return c == 'v'
	}
	return c == letter
}

func isWord(c byte) bool { return c >= 'a' && c <= 'z' }

// step is how far one way to read a word has come, from which byte on.
type step struct {
	word byte
	rest string
	from int
}

// earley reads a text in all ways at the same time: sets has the steps that are
// possible behind each of its bytes, as Earley does it.
type earley struct {
	rules map[byte][]string
	sets  []map[step]bool
}

func newEarley() *earley {
	e := &earley{rules: map[byte][]string{}}
	for _, line := range strings.Split(strings.TrimSpace(grammar), "\n") {
		words := strings.Fields(line)
		e.rules[words[0][0]] = words[1:]
	}
	first := map[step]bool{}
	for _, rest := range e.rules['s'] {
		first[step{'s', rest, 0}] = true
	}
	e.push(first)
	return e
}

// push takes a set in, and all that follows from it.
func (e *earley) push(set map[step]bool) {
	e.sets = append(e.sets, set)
	var todo []step
	for x := range set {
		todo = append(todo, x)
	}
	for len(todo) > 0 {
		x := todo[0]
		todo = todo[1:]
		for _, y := range e.follows(x) {
			if !set[y] {
				set[y] = true
				todo = append(todo, y)
			}
		}
	}
}

func (e *earley) follows(x step) (all []step) {
	switch {
	case x.rest == "":
		for y := range e.sets[x.from] {
			if y.rest != "" && y.rest[0] == x.word {
				all = append(all, step{y.word, y.rest[1:], y.from})
			}
		}
	case isWord(x.rest[0]):
		for _, rest := range e.rules[x.rest[0]] {
			all = append(all, step{x.rest[0], rest, len(e.sets) - 1})
		}
	}
	return all
}

// next goes on with a byte, if that is possible.
func (e *earley) next(c byte) bool {
	set := map[step]bool{}
	for x := range e.sets[len(e.sets)-1] {
		if x.rest != "" && !isWord(x.rest[0]) && fits(c, x.rest[0]) {
			set[step{x.word, x.rest[1:], x.from}] = true
		}
	}
	if len(set) > 0 {
		e.push(set)
	}
	return len(set) > 0
}

func (e *earley) back() { e.sets = e.sets[:len(e.sets)-1] }

// isWhole tells whether the text may end here.
func (e *earley) isWhole() bool {
	return e.sets[len(e.sets)-1][step{'s', "", 0}]
}

// agrees asks of a text with which it can go on, but perhaps not end.
func (e *earley) agrees(t *testing.T, text string) {
	t.Helper()
	s, f := conway.Canon(text)
	ok := f == (api.Fault{}) || f == api.Fault{Code: api.ErrLarge, At: -1}
	if !e.isWhole() {
		ok = s == "" && f == api.Fault{Code: api.ErrSyntax, At: len(text)}
	}
	if !ok {
		t.Fatalf("%q: %q %v", text, s, f)
	}
}

func failsAt(t *testing.T, text string, at int) {
	t.Helper()
	if s, f := conway.Canon(text); s != "" || f != (api.Fault{Code: api.ErrSyntax, At: at}) {
		t.Fatalf("%q: %q %v, not at %d", text, s, f, at)
	}
}

// from goes through all texts of so many more bytes, up to the first byte with
// which they can not go on.
func (e *earley) from(t *testing.T, text string, more int) (whole int) {
	e.agrees(t, text)
	if e.isWhole() {
		whole++
	}
	for c := range 256 {
		longer := text + string([]byte{byte(c)})
		switch {
		case !e.next(byte(c)):
			failsAt(t, longer, len(text))
			continue
		case more > 0:
			whole += e.from(t, longer, more-1)
		}
		e.back()
	}
	return whole
}

func TestAllShortTexts(t *testing.T) {
	if n := newEarley().from(t, "", 3); n < 1000 {
		t.Error(n)
	}
}

// Longer ones, with a byte that is wrong, and then with any.
func TestLongerTexts(t *testing.T) {
	rnd := rand.New(rand.NewSource(27))
	const letters = "0123456789**^v{{{|||}}},,,((()))++--//"
	whole := 0
	for range 3000 {
		e, text := newEarley(), ""
		for range rnd.Intn(60) {
			c := letters[rnd.Intn(len(letters))]
			if e.next(c) {
				text += string(c)
				continue
			}
			failsAt(t, text+string(c), len(text))
			failsAt(t, text+string(c)+letters[rnd.Intn(len(letters)):], len(text))
		}
		e.agrees(t, text)
		if e.isWhole() {
			whole++
		}
	}
	if whole < 100 {
		t.Error(whole)
	}
}
