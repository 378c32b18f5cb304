package conway

// What an atom can be; a canonical game is written as one of those ahead of
// brackets.
const (
	number = iota
	star
	up
	down
	braces
	brackets
)

// atom of a text: a number has n and d, a star n, braces what each player moves
// to, brackets a sum.
type atom struct {
	kind  int
	n, d  int
	moves [2][]sum
	sum   sum
}

// term of a sum; minus: it is taken away.
type term struct {
	atom
	minus bool
}

type sum []term

// end is there instead of a byte behind the last one.
const end = -1

// reader goes through a text byte by byte.
type reader struct {
	text string
	at   int
}

// parse reads a whole text. However large the games are that it tells, it is
// read to its end first: a text that can not go on is the worse fault.
func parse(s string) sum {
	if len(s) > maxBytes {
		panic(tooLarge{0})
	}
	r := &reader{text: s}
	all := r.sum()
	r.must(end)
	return all
}

func (r *reader) peek() int {
	if r.at == len(r.text) {
		return end
	}
	return int(r.text[r.at])
}

// takes goes over the byte if it is there.
func (r *reader) takes(c int) bool {
	is := r.peek() == c
	if is && c != end {
		r.at++
	}
	return is
}

func (r *reader) must(c int) {
	if !r.takes(c) {
		r.fail()
	}
}

func (r *reader) fail() { panic(stuck{r.at}) }

func (r *reader) sum() sum {
	all := sum{r.term(false)}
	for {
		switch {
		case r.takes('+'):
			all = append(all, r.term(false))
		case r.takes('-'):
			all = append(all, r.term(true))
		default:
			return all
		}
	}
}

func (r *reader) term(minus bool) term {
	for r.takes('-') {
		minus = !minus
	}
	return term{r.atom(), minus}
}

func (r *reader) atom() atom {
	switch {
	case r.takes('*'):
		return atom{kind: star, n: r.heap()}
	case r.takes('^'):
		return atom{kind: up}
	case r.takes('v'):
		return atom{kind: down}
	case r.takes('{'):
		l := r.list('|')
		return atom{kind: braces, moves: [2][]sum{l, r.list('}')}}
	case r.takes('('):
		all := r.sum()
		r.must(')')
		return atom{kind: brackets, sum: all}
	}
	return r.number()
}

// list reads what one player moves to, and the byte behind it.
func (r *reader) list(behind int) []sum {
	if r.takes(behind) {
		return nil
	}
	l := []sum{r.sum()}
	for r.takes(',') {
		l = append(l, r.sum())
	}
	r.must(behind)
	return l
}

// heap is the number of a star, which has one digit or none.
func (r *reader) heap() int {
	c := r.peek()
	if c < '0' || c > '8' {
		return 1
	}
	r.at++
	return c - '0'
}

func (r *reader) number() atom {
	a := atom{kind: number, n: r.digits(), d: 1}
	if a.n%2 == 1 && r.takes('/') {
		a.d = r.denominator()
	}
	return a
}

// digits reads a 0, or up to three digits.
func (r *reader) digits() int {
	if r.takes('0') {
		return 0
	}
	n := 0
	for range 3 {
		c := r.peek()
		if c < '0' || c > '9' {
			break
		}
		n = 10*n + c - '0'
		r.at++
	}
	if n == 0 {
		r.fail()
	}
	return n
}

// denominator: the first byte tells which one it is.
func (r *reader) denominator() int {
	switch {
	case r.takes('2'):
		return 2
	case r.takes('4'):
		return 4
	case r.takes('8'):
		return 8
	case r.takes('1'):
		r.must('6')
		return 16
	case r.takes('3'):
		r.must('2')
		return 32
	}
	r.must('6')
	r.must('4')
	return 64
}
