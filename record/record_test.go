package record_test

import (
	"math/rand"
	"reflect"
	"slices"
	"strings"
	"testing"
	"unsafe"

	"parlour/api"
	"parlour/record"
)

func note(move, comment string, next ...api.Note) api.Note {
	return api.Note{Move: move, Comment: comment, Next: next}
}

// chain is a record of so many notes, each the only one of the Next ahead.
func chain(n int) []api.Note {
	var l []api.Note
	for range n {
		l = []api.Note{note("a", "", l...)}
	}
	return l
}

// row is a record of so many notes side by side.
func row(n int) []api.Note {
	return slices.Repeat([]api.Note{note("a", "")}, n)
}

// comb has rows of that many notes, so many of them, one below another.
func comb(wide, deep int) []api.Note {
	var l []api.Note
	for range deep {
		next := l
		l = row(wide)
		l[wide/2].Next = next
	}
	return l
}

func TestMovesAndComments(t *testing.T) {
	type text struct {
		s  string
		ok bool
	}
	both := []text{
		{"a", true}, {"Ka1-b1", true}, {"\u2654", true}, {"\U0001f600", true}, {"-", true}, {"0", true},
		// Of what is no letter only the blank and byte 10 are named.
		{"\t", true}, {"\r", true}, {"\x00", true}, {"\u00a0", true}, {"\u2028", true}, {"\x7f", true}, {"[]<>", true},
		{"\ufffd", true}, {"a\ufffdb", true}, {"\ufeffa", true}, {"\U0010ffff", true},
		{strings.Repeat("a", 20), true}, {strings.Repeat("\U0001f600", 20), true}, {strings.Repeat("\ufffd", 20), true},
		{"\n", false}, {"a\n", false}, {"\na", false}, {"a\nb", false}, {"{", false}, {"}", false}, {"a{b", false}, {"b}", false},
		{"\xff", false}, {"a\xff", false}, {"\xffa", false}, {"\xe2\x99", false}, {"\x94", false}, {"\xed\xa0\x80", false},
		{"\xc0\x80", false}, {"\xf4\x90\x80\x80", false}, {"a\ufffd\xef\xbf", false}, {"\u2654\x94", false},
	}
	moves := []text{
		{"", false}, {" ", false}, {"a b", false}, {" a", false}, {"a ", false}, {"(", false}, {")", false}, {"a(b", false}, {"a)", false},
		{strings.Repeat("a", 21), false}, {strings.Repeat("\U0001f600", 21), false}, {strings.Repeat("a", 1<<20), false},
	}
	comments := []text{
		{"", true}, {" ", true}, {"a b", true}, {" a ", true}, {"(", true}, {")", true}, {"(a) b", true},
		{strings.Repeat("a", 21), true}, {strings.Repeat(" ", 200), true}, {strings.Repeat("\U0001f600", 200), true},
		{strings.Repeat("a", 201), false}, {strings.Repeat("\u2654", 201), false}, {strings.Repeat("a", 200) + "\n", false}, {strings.Repeat("a", 1<<20), false},
	}
	tell := func(n api.Note, ok bool) {
		want := api.OK
		if !ok {
			want = api.ErrArg
		}
		for _, l := range [][]api.Note{{n}, {note("a", ""), n}, {note("a", "", note("b", "c", n), note("d", ""))}} {
			if e := record.Check(l); e != want {
				t.Errorf("%.30q: %v", l, e)
			}
			if s, e := record.Write(l); e != want || (s != "") != ok {
				t.Errorf("%.30q: %.30q %v", l, s, e)
			}
		}
	}
	for _, x := range append(moves, both...) {
		tell(note(x.s, ""), x.ok)
		tell(note(x.s, "fine"), x.ok)
	}
	for _, x := range append(comments, both...) {
		tell(note("a", x.s), x.ok)
	}
	tell(note("", strings.Repeat("a", 201)), false)
}

func TestHowManyHowDeep(t *testing.T) {
	for i, x := range []struct {
		l    []api.Note
		want api.Errno
	}{
		{nil, api.OK}, {[]api.Note{}, api.OK}, {[]api.Note{{Move: "a", Next: []api.Note{}}}, api.OK},
		{row(1000), api.OK}, {row(1001), api.ErrLarge}, {row(100000), api.ErrLarge},
		{chain(50), api.OK}, {chain(51), api.ErrLarge}, {chain(1000), api.ErrLarge}, {chain(1 << 16), api.ErrLarge},
		{comb(20, 50), api.OK}, {comb(20, 51), api.ErrLarge}, {comb(21, 50), api.ErrLarge}, {comb(500, 2), api.OK}, {comb(501, 2), api.ErrLarge},
		{append(comb(20, 49), row(20)...), api.OK}, {append(comb(20, 49), row(21)...), api.ErrLarge},
		{append(row(500), chain(50)...), api.OK}, {append(row(500), chain(51)...), api.ErrLarge}, {append(chain(51), row(1)...), api.ErrLarge},
	} {
		if e := record.Check(x.l); e != x.want {
			t.Error(i, e)
		}
		s, e := record.Write(x.l)
		if e != x.want || e != api.OK && s != "" {
			t.Errorf("%d: %.30q %v", i, s, e)
		}
	}
}

// A note that is wrong is told first, wherever it is, however large the record.
func TestWrongAheadOfLarge(t *testing.T) {
	at := func(l []api.Note, way ...int) []api.Note {
		here := l
		for _, i := range way[:len(way)-1] {
			here = here[i].Next
		}
		here[way[len(way)-1]].Move = " "
		return l
	}
	deepest := slices.Repeat([]int{0}, 1<<16)
	for i, l := range [][]api.Note{
		at(row(1001), 0), at(row(1001), 1000), at(row(100000), 99999),
		at(chain(51), deepest[:51]...), at(chain(1<<16), deepest...), at(append(chain(60), row(1)...), 1),
		at(append(row(1000), comb(3, 70)...), 1002), at(comb(30, 60), 15, 15, 15, 29),
	} {
		if e := record.Check(l); e != api.ErrArg {
			t.Error(i, e)
		}
		if s, e := record.Write(l); s != "" || e != api.ErrArg {
			t.Errorf("%d: %.30q %v", i, s, e)
		}
	}
	l := chain(70)
	l[0].Next[0].Next[0].Comment = "}"
	if e := record.Check(l); e != api.ErrArg {
		t.Error(e)
	}
}

// What comes round to itself goes on for ever: it is too large.
func TestRoundRecords(t *testing.T) {
	one := row(1)
	one[0].Next = one
	two := row(2)
	two[0].Next, two[1].Next = two, two
	late := row(3)
	late[2].Next = late
	var shared []api.Note
	for range 18 {
		next := shared
		shared = row(2)
		shared[0].Next, shared[1].Next = next, next
	}
	for i, l := range [][]api.Note{one, two, late, append(row(2), late...), shared} {
		if e := record.Check(l); e != api.ErrLarge {
			t.Error(i, e)
		}
		if s, e := record.Write(l); s != "" || e != api.ErrLarge {
			t.Error(i, s, e)
		}
		if p, w, e := record.Play(api.Rules{}, l); p != (api.Position{}) || w != nil || e != api.ErrArg {
			t.Error(i, p, w, e)
		}
	}
}

func TestWrite(t *testing.T) {
	for _, x := range []struct {
		l []api.Note
		s string
	}{
		{nil, ""},
		{[]api.Note{note("e4", "")}, "e4"},
		{[]api.Note{note("e4", "good")}, "e4 {good}"},
		{[]api.Note{note("e4", "good", note("e5", "")), note("d4", "", note("d5", "")), note("c4", "")}, "e4 {good} (d4 d5) (c4) e5"},
		{[]api.Note{note("a", "b", note("d", "")), note("c", "")}, "a {b} (c) d"},
		{[]api.Note{note("a", ""), note("b", "x", note("c", "", note("e", "")), note("d", ""))}, "a (b {x} c (d) e)"},
		{[]api.Note{note("a", "", note("b", "", note("c", ""))), note("d", "y"), note("e", "")}, "a (d {y}) (e) b c"},
		{[]api.Note{note("a", "", note("b", "", note("c", "", note("d", ""), note("e", "")), note("f", "")), note("g", ""))}, "a b (g) c (f) d (e)"},
		{[]api.Note{note("a", "", note("b", "")), note("c", "", note("d", "", note("e", ""), note("f", "")), note("g", "", note("h", "")))}, "a (c d (g h) e (f)) b"},
		{[]api.Note{note("a", " ( b ) "), note("\u2654", "\u265a\t")}, "a { ( b ) } (\u2654 {\u265a\t})"},
	} {
		if s, e := record.Write(x.l); s != x.s || e != api.OK {
			t.Errorf("%v: %q, not %q, %v", x.l, s, x.s, e)
		}
		if e := record.Check(x.l); e != api.OK {
			t.Error(x.l, e)
		}
		if l, f := record.Read(x.s); !same(l, x.l) || f != (api.Fault{}) {
			t.Errorf("%q: %v %v", x.s, l, f)
		}
	}
}

func same(a, b []api.Note) bool {
	return slices.EqualFunc(a, b, func(x, y api.Note) bool {
		return x.Move == y.Move && x.Comment == y.Comment && same(x.Next, y.Next)
	})
}

// anyRecord has no more than most notes, no more than that many deep.
func anyRecord(rnd *rand.Rand, most *int, depth int) []api.Note {
	var l []api.Note
	for depth > 0 && *most > 0 && rnd.Intn(5) < 3 {
		*most--
		l = append(l, note(anyText(rnd, 1, 20, "ab-\t\u2654\U0001f600\ufffd\x00"), anyText(rnd, 0, 3, "ab ()\u265a\ufffd"), anyRecord(rnd, most, depth-1)...))
	}
	return l
}

func anyText(rnd *rand.Rand, least, most int, of string) string {
	runes := []rune(of)
	var b strings.Builder
	n := least
	for n < most && rnd.Intn(2) == 0 {
		n++
	}
	for range n {
		b.WriteRune(runes[rnd.Intn(len(runes))])
	}
	return b.String()
}

// plain writes a record as the promise tells it, blanks and all, in one go;
// gap is what stands where blanks may.
func plain(l []api.Note, gap func(must bool) string) string {
	if len(l) == 0 {
		return ""
	}
	s := l[0].Move
	if l[0].Comment != "" {
		s += gap(false) + "{" + l[0].Comment + "}"
	}
	for _, other := range l[1:] {
		s += gap(false) + "(" + gap(false) + plain([]api.Note{other}, gap) + gap(false) + ")"
	}
	if len(l[0].Next) > 0 {
		s += gap(strings.HasSuffix(s, l[0].Move)) + plain(l[0].Next, gap)
	}
	return s
}

func TestAnyRecordThereAndBack(t *testing.T) {
	rnd := rand.New(rand.NewSource(4))
	for range 3000 {
		most := rnd.Intn(40)
		l := anyRecord(rnd, &most, 1+rnd.Intn(12))
		s, e := record.Write(l)
		if back, f := record.Read(s); e != api.OK || f != (api.Fault{}) || !same(back, l) {
			t.Fatalf("%v: %q, %v: %v, %v", l, s, e, back, f)
		}
		loose := plain(l, func(must bool) string {
			if n := rnd.Intn(4); n > 0 || !must {
				return strings.Repeat(" \n"[rnd.Intn(2):], n)[:n]
			}
			return "\n"
		})
		if back, f := record.Read(" \n" + loose + "\n "); f != (api.Fault{}) || !same(back, l) {
			t.Fatalf("%q: %v, %v", loose, back, f)
		}
	}
}

// shares leaves out texts of one byte: the language keeps those in a place of
// its own.
func shares(a, b string) bool {
	if len(a) < 2 || len(b) < 2 {
		return false
	}
	from, to := uintptr(unsafe.Pointer(unsafe.StringData(a))), uintptr(unsafe.Pointer(unsafe.StringData(b)))
	return from < to+uintptr(len(b)) && to < from+uintptr(len(a))
}

func TestAnswersAreNewMemory(t *testing.T) {
	move := strings.Clone("Ka1-b1")
	if s, e := record.Write([]api.Note{note(move, "")}); s != move || e != api.OK || shares(s, move) {
		t.Errorf("%q %v", s, e)
	}
	s := strings.Clone("move {comment} (other {more}) (third) next (else) last (final)")
	l, f := record.Read(s)
	if f.Code != api.OK || len(l) != 3 {
		t.Fatal(l, f)
	}
	again, _ := record.Read(s)
	for len(l) > 0 {
		for _, n := range l {
			if shares(n.Move, s) || shares(n.Comment, s) {
				t.Error(n)
			}
		}
		next := l[0].Next
		// A list that shared room with another one would spoil it.
		l[0].Next = nil
		clear(l[:cap(l)])
		if again = again[0].Next; !same(next, again) {
			t.Error(next, again)
		}
		l = next
	}
}

func TestWhatIsHandedInStays(t *testing.T) {
	make2 := func() []api.Note {
		spare := []api.Note{note("Ka1-b1", "x", note("no", ""), note("spare", "")), note("Ka1-c1", ""), note("spare", "")}
		spare[0].Next = spare[0].Next[:1]
		return spare
	}
	spare, before := make2(), make2()
	r := kings(t)
	start := r.Start
	record.Check(spare[:2])
	record.Write(spare[:2])
	record.Play(r, spare[:2])
	if !reflect.DeepEqual(spare, before) || spare[0].Next[:2][1].Move != "spare" || r.Start != start {
		t.Error(spare, r.Start)
	}
}
