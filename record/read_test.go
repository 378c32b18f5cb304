package record_test

import (
	"math/rand"
	"regexp"
	"sort"
	"strings"
	"testing"
	"unicode/utf8"

	"parlour/api"
	"parlour/record"
)

func syntax(at int) api.Fault { return api.Fault{Code: api.ErrSyntax, At: at} }

func TestTextsThatAreRight(t *testing.T) {
	abcd := []api.Note{note("a", "b", note("d", "")), note("c", "")}
	for _, x := range []struct {
		s string
		l []api.Note
	}{
		{"", nil}, {" ", nil}, {"\n", nil}, {" \n \n\n  ", nil},
		{"a", []api.Note{note("a", "")}}, {" a", []api.Note{note("a", "")}}, {"\na\n ", []api.Note{note("a", "")}},
		{"a {b} (c) d", abcd}, {"a{b}(c)d", abcd}, {"\n\na \n{b}\n (\nc \n)\nd\n", abcd}, {"a  {b}  (  c  )  d", abcd},
		{"a{}", []api.Note{note("a", "")}}, {"a {} b", []api.Note{note("a", "", note("b", ""))}}, {"a (b {})", []api.Note{note("a", ""), note("b", "")}},
		{"a{ }", []api.Note{note("a", " ")}}, {"a{ b  c }", []api.Note{note("a", " b  c ")}}, {"a{(b) c)(}", []api.Note{note("a", "(b) c)(")}},
		{"a\nb", []api.Note{note("a", "", note("b", ""))}}, {"a{}b{}c", []api.Note{note("a", "", note("b", "", note("c", "")))}},
		{"a\tb\r", []api.Note{note("a\tb\r", "")}}, {"\ufffd\u00a0{\ufffd\u00a0}", []api.Note{note("\ufffd\u00a0", "\ufffd\u00a0")}},
		{"a(b)(c)(d)", []api.Note{note("a", ""), note("b", ""), note("c", ""), note("d", "")}},
		{"a(b c(d)e)f", []api.Note{note("a", "", note("f", "")), note("b", "", note("c", "", note("e", "")), note("d", ""))}},
		{"a b(c d(e))(f)g", []api.Note{note("a", "", note("b", "", note("g", "")), note("c", "", note("d", ""), note("e", "")), note("f", ""))}},
		{strings.Repeat("\u2654", 20), []api.Note{note(strings.Repeat("\u2654", 20), "")}},
		{strings.Repeat("a", 20) + "{" + strings.Repeat("\u2654", 200) + "}", []api.Note{note(strings.Repeat("a", 20), strings.Repeat("\u2654", 200))}},
		{strings.Repeat("a", 20) + "(b)", []api.Note{note(strings.Repeat("a", 20), ""), note("b", "")}},
	} {
		if l, f := record.Read(x.s); !same(l, x.l) || f != (api.Fault{}) {
			t.Errorf("%q: %v %v", x.s, l, f)
		}
	}
}

func TestTextsThatAreNot(t *testing.T) {
	twenty, hundreds := strings.Repeat("\u2654", 20), strings.Repeat("\u265a", 200)
	for _, x := range []struct {
		s  string
		at int
	}{
		{"(", 0}, {")", 0}, {"{", 0}, {"}", 0}, {"\xff", 0}, {" (a)", 1}, {" {a}", 1}, {"\n)", 1}, {"{}", 0}, {"()", 0},
		{"a}", 1}, {"a )", 2}, {"a b)", 3}, {"a (b) )", 6}, {"a (b))", 5}, {"a {b}}", 5},
		{"a ()", 3}, {"a ( )", 4}, {"a (\n(", 4}, {"a ({b})", 3}, {"a (}", 3}, {"a (b (c))", 5}, {"a (b{x}(c))", 7}, {"a (b) (c (d))", 9},
		{"a {b} {c}", 6}, {"a {} {c}", 5}, {"a {}{}", 4}, {"a (b) {c}", 6}, {"a (b {c} {d})", 9}, {"a (b) b {x} (c) {y}", 16},
		{"a {b{", 4}, {"a {{", 3}, {"a {\n}", 3}, {"a {b\n", 4}, {"a {b\xff}", 4},
		// A text that ends too early: how many runes there are.
		{"a (", 3}, {"a ( ", 4}, {"a (b", 4}, {"a (b ", 5}, {"a (b c (d", 9}, {"a (b c (d) ", 11}, {"\u2654 {", 3}, {"\u2654 {\u265a", 4}, {"a {b ", 5}, {"\u2654 (\u2654 {}", 7},
		// Runes, not bytes, are counted; a byte that is no part of one is one.
		{"\u2654 )", 2}, {"\u2654\xff", 1}, {"\u2654\xe2\x99", 1}, {"\u2654\x94\u2654", 1}, {"\u2654 \xed\xa0\x80", 2}, {"\U0001f600\u00e9}", 2}, {"\ufffd\ufffd}", 2}, {"a \xc0\x80", 2},
		{"a {\u265a\xf4\x90\x80\x80}", 4}, {"a (\xff", 3}, {"a (b) \xff", 6}, {"a (b)\x80", 5}, {" \x80", 1},
		// As long as there are runes of a move, it is one.
		{twenty + "a", 20}, {twenty + "\xff", 20}, {twenty + "}", 20}, {"\u2654 " + twenty + "\u2654(", 22}, {"a(" + twenty + "\t)", 22}, {twenty + twenty, 20},
		{"a{" + hundreds + "x}", 202}, {"a{" + hundreds + " ", 202}, {"a{" + hundreds + "{", 202}, {"a{" + hundreds + "\n}", 202}, {"a{" + hundreds, 202}, {"a{" + hundreds + "\xff", 202}, {"a{" + hundreds + "}{}", 203},
	} {
		if l, f := record.Read(x.s); l != nil || f != syntax(x.at) {
			t.Errorf("%q: %v %v, not at %d", x.s, l, f, x.at)
		}
	}
}

// A text that is right, but of a record that is too large; a fault is told
// first, however far behind.
func TestTextsThatAreLarge(t *testing.T) {
	large := api.Fault{Code: api.ErrLarge, At: -1}
	for i, x := range []struct {
		s    string
		want api.Fault
	}{
		{strings.Repeat("a ", 50), api.Fault{}}, {strings.Repeat("a ", 51), large}, {strings.Repeat("a ", 51) + ")", syntax(102)},
		{"a" + strings.Repeat("(b)", 999), api.Fault{}}, {"a" + strings.Repeat("(b)", 1000), large}, {"a" + strings.Repeat("(b)", 1000) + "{", syntax(3001)},
		{strings.Repeat("a"+strings.Repeat("(b)", 19), 50), api.Fault{}}, {strings.Repeat("a"+strings.Repeat("(b)", 19), 51), large},
		{strings.Repeat("a"+strings.Repeat("(b)", 19), 49) + "a" + strings.Repeat("(b)", 20), large},
		// A bracket is as deep as what it stands beside.
		{strings.Repeat("a ", 49) + "a (b)", api.Fault{}}, {strings.Repeat("a ", 49) + "a (b c)", large}, {"a (" + strings.Repeat("b ", 50) + ")", api.Fault{}}, {"a (" + strings.Repeat("b ", 51) + ") c", large},
		{strings.Repeat("a b (", 49) + "c" + strings.Repeat(")", 49), api.Fault{}}, {strings.Repeat("a b (", 50) + "c" + strings.Repeat(")", 50), large},
		{strings.Repeat("a b (", 50) + "c" + strings.Repeat(")", 49), syntax(5*50 + 50)},
		{strings.Repeat("a ", 1<<22), large}, {strings.Repeat("a ", 1<<22) + "}", syntax(1 << 23)},
		{strings.Repeat("a b(", 1<<16) + "c" + strings.Repeat(")", 1<<16), large}, {strings.Repeat("a b(", 1<<20) + "c" + strings.Repeat(")", 1<<20-1), syntax(5 << 20)},
		{strings.Repeat("a b(", 1<<16) + "c" + strings.Repeat(")", 1<<16) + "{", syntax(5<<16 + 1)},
		{strings.Repeat(" ", 1<<22), api.Fault{}}, {strings.Repeat("a", 1<<22), syntax(20)}, {"a{" + strings.Repeat("a", 1<<22), syntax(202)},
	} {
		l, f := record.Read(x.s)
		if f != x.want || f.Code != api.OK && l != nil {
			t.Errorf("%d, %.30q: %d notes, %v, not %v", i, x.s, len(l), f, x.want)
		}
		if f.Code == api.OK && record.Check(l) != api.OK {
			t.Errorf("%d, %.30q: is no record", i, x.s)
		}
	}
}

// What follows knows texts another way: what is in brackets is taken out of
// them, from within, until nothing but moves is left.
var (
	token    = regexp.MustCompile(`[^ \n(){}]+|\{[^{}\n]*\}|[(){}]|[ \n]+`)
	bracket  = regexp.MustCompile(`\(N(NB*)*\)`)
	mainLine = regexp.MustCompile(`^(NB*)*$`)
)

func isRight(s string) bool {
	if !utf8.ValidString(s) {
		return false
	}
	shape := ""
	for _, x := range token.FindAllString(s, -1) {
		n := utf8.RuneCountInString(x)
		switch x[0] {
		case ' ', '\n':
		case '{':
			if n < 2 || n > 202 {
				return false
			}
			shape += "C"
		case '(', ')':
			shape += x
		default:
			if n > 20 || x == "}" {
				return false
			}
			shape += "M"
		}
	}
	shape = strings.ReplaceAll(strings.ReplaceAll(shape, "MC", "N"), "M", "N")
	for bracket.MatchString(shape) {
		shape = bracket.ReplaceAllString(shape, "B")
	}
	return mainLine.MatchString(shape)
}

// canGoOn: a move, or the end of a comment, and brackets that are closed, make
// a right text of any beginning of one.
func canGoOn(s string) bool {
	for _, x := range []string{"", "a", "}"} {
		for n := range strings.Count(s, "(") + 1 {
			if isRight(s + x + strings.Repeat(")", n)) {
				return true
			}
		}
	}
	return false
}

func TestAllShortTexts(t *testing.T) {
	var grow func(s string, n int)
	grow = func(s string, n int) {
		want := syntax(n)
		if isRight(s) {
			want = api.Fault{}
		}
		if _, f := record.Read(s); f != want {
			t.Errorf("%q: %v, not %v", s, f, want)
		}
		if n == 6 {
			return
		}
		for _, x := range []string{"a", " ", "(", ")", "{", "}", "\n", "\xff"} {
			if canGoOn(s + x) {
				grow(s+x, n+1)
				continue
			}
			for _, rest := range []string{"", "a", ")", "}", "\xff"} {
				if l, f := record.Read(s + x + rest); l != nil || f != syntax(n) {
					t.Errorf("%q: %v %v", s+x+rest, l, f)
				}
			}
		}
	}
	grow("", 0)
}

func TestSpoiltTexts(t *testing.T) {
	rnd := rand.New(rand.NewSource(11))
	faults := 0
	for range 1500 {
		most := 12
		s := plain(anyRecord(rnd, &most, 6), func(must bool) string {
			if must {
				return " "
			}
			return strings.Repeat(" ", rnd.Intn(2))
		})
		runes := strings.Split(s, "")
		for range rnd.Intn(3) {
			at := rnd.Intn(len(runes) + 1)
			to := min(at+rnd.Intn(2), len(runes))
			put := []string{"", "(", ")", "{", "}", "a", " ", "\n", "\x99", "\u2654", strings.Repeat("a", 19)}[rnd.Intn(11)]
			runes = strings.Split(strings.Join(runes[:at], "")+put+strings.Join(runes[to:], ""), "")
		}
		s = strings.Join(runes, "")
		at := sort.Search(len(runes), func(i int) bool { return !canGoOn(strings.Join(runes[:i+1], "")) })
		want := syntax(at)
		if at == len(runes) && isRight(s) {
			want = api.Fault{}
		} else {
			faults++
		}
		if l, f := record.Read(s); f != want || f.Code != api.OK && l != nil {
			t.Fatalf("%q: %v, not %v", s, f, want)
		}
	}
	if faults < 500 || faults > 1200 {
		t.Error(faults, "faults: too few or too many to tell much")
	}
}
