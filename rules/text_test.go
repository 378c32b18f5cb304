package rules_test

import (
	"math/rand"
	"reflect"
	"regexp"
	"strings"
	"testing"

	"parlour/api"
	"parlour/board"
	"parlour/rules"
)

// alike holds empty lists for the same, whether they are nil or not.
func alike(a, b api.Rules) bool {
	return reflect.DeepEqual(withoutEmpty(a), withoutEmpty(b))
}

func withoutEmpty(r api.Rules) api.Rules {
	r.Pieces = append([]api.Piece(nil), r.Pieces...)
	for i, p := range r.Pieces {
		r.Pieces[i].Ways = append([]api.Way(nil), p.Ways...)
	}
	return r
}

func TestWriteAndRead(t *testing.T) {
	for _, x := range []struct {
		s string
		r api.Rules
	}{
		{fineText, fine()},
		{
			"start K../..k w -/-\npiece K 3: leap 0 1\nlose K\nplies 40\n",
			api.Rules{
				Start:  api.Position{W: 3, H: 2, Cells: "..kK.."},
				Pieces: []api.Piece{{Letter: 'K', Worth: 3, Ways: []api.Way{{Kind: api.Leap, Y: 1}}}},
				Lose:   'K',
				Plies:  40,
			},
		},
		{
			"start . w -/-\npiece A 0\nplies 1\n",
			api.Rules{Start: api.Position{W: 1, H: 1, Cells: "."}, Pieces: []api.Piece{{Letter: 'A', Ways: []api.Way{}}}, Plies: 1},
		},
		{
			"start z b -/ZZ\npiece Z 100: step 7 0, step 0 7 take, leap 7 7 quiet, slide 0 7\npiece A 10\ndrops\nline 8\nplies 1000\n",
			api.Rules{
				Start: api.Position{W: 1, H: 1, Cells: "z", Turn: 1, Hands: [2]string{"", "ZZ"}},
				Pieces: []api.Piece{
					{Letter: 'Z', Worth: 100, Ways: []api.Way{
						{Kind: api.Step, X: 7}, {Kind: api.Step, Y: 7, Take: api.Take}, {Kind: api.Leap, X: 7, Y: 7, Take: api.Quiet}, {Kind: api.Slide, Y: 7},
					}},
					{Letter: 'A', Worth: 10},
				},
				Drops: true,
				Line:  8,
				Plies: 1000,
			},
		},
		{
			"start . w -/-\npiece A 0\nreach A\nstuck\nplies 10\n",
			api.Rules{Start: api.Position{W: 1, H: 1, Cells: "."}, Pieces: []api.Piece{{Letter: 'A'}}, Reach: 'A', Stuck: true, Plies: 10},
		},
	} {
		if s, e := rules.Write(x.r); s != x.s || e != api.OK {
			t.Errorf("Write %+v: %q %v", x.r, s, e)
		}
		if r, f := rules.Read(x.s); !alike(r, x.r) || f != (api.Fault{}) {
			t.Errorf("Read %q: %+v %v", x.s, r, f)
		}
	}
}

func TestReadOfWrite(t *testing.T) {
	for name, want := range rightRules() {
		s, e := rules.Write(want)
		if r, f := rules.Read(s); e != api.OK || f != (api.Fault{}) || !alike(r, want) {
			t.Errorf("%s: %q %v: %+v %v", name, s, e, r, f)
		}
	}
}

func expectFault(t *testing.T, s string, want api.Fault) {
	t.Helper()
	if r, f := rules.Read(s); !reflect.DeepEqual(r, api.Rules{}) || f != want {
		t.Errorf("%q: %+v %v, not %v", s, r, f, want)
	}
}

// inLine is fineText with another line in the place of the n-th.
func inLine(n int, line string) string {
	lines := strings.SplitAfter(fineText, "\n")
	lines[n] = line + "\n"
	return strings.Join(lines, "")
}

// None of these is a line of its kind, by its writing alone.
func TestReadFaultsInLines(t *testing.T) {
	for n, lines := range [][]string{
		{
			"", " ", "start", "start ", "starts ..k/K.P b PP/KP", "Start ..k/K.P b PP/KP", " start ..k/K.P b PP/KP", "start  ..k/K.P b PP/KP",
			"start ..k/K.P b PP/KP ", "start ..k/K.P b PP/KP\r", "start ..k/K.P b PK/KP", "start ..k/K. b PP/KP", "start ..k/K.P x PP/KP",
			"start ..k/K.P b PP", "start\t..k/K.P b PP/KP", "start ......... w -/-", "start: ..k/K.P b PP/KP", "start start ..k/K.P b PP/KP",
		},
		{
			"", "piece", "piece ", "piece K", "piece K ", "piece  K 3", "piece K  3", "piece K 3 ", "piece k 3", "piece KK 3", "piece  3", "piece 3",
			"piece @ 3", "piece [ 3", "piece \x00 3", "piece K 03", "piece K 00", "piece K -1", "piece K -0", "piece K +3", "piece K 3.", "piece K 10000",
			"piece K 99999", "piece K 18446744073709551619", "piece K 3a", "piece K 0x3", "piece K 1_0", "piece K \xd9\xa3", "piece K /", "piece K :", "piece K 3:",
			"piece K 3: ", "piece K 3:leap 0 1", "piece K 3 : leap 0 1", "piece K 3:  leap 0 1", "piece K 3 leap 0 1", "piece K: leap 0 1", "piece K : leap 0 1",
			"piece K 3: leap 0 1 ", "piece K 3: leap 0 1,", "piece K 3: leap 0 1, ", "piece K 3: leap 0 1,leap 1 1", "piece K 3: leap 0 1 , leap 1 1",
			"piece K 3: leap 0 1,  leap 1 1", "piece K 3: , leap 0 1", "piece K 3: leap 0 1, , leap 1 1", "piece K 3: leap 0 1; leap 1 1",
			"piece K 3: leap", "piece K 3: leap 0", "piece K 3: leap 0 ", "piece K 3: leap 0  1", "piece K 3: leap  0 1", "piece K 3: leap 0,1", "piece K 3: 0 1",
			"piece K 3: hop 0 1", "piece K 3: Leap 0 1", "piece K 3: leaps 0 1", "piece K 3: piece 0 1", "piece K 3: leap 00 1", "piece K 3: leap 0 01",
			"piece K 3: leap 0 -1", "piece K 3: leap -1 0", "piece K 3: leap 0 10000", "piece K 3: leap 10000 0", "piece K 3: leap x 1", "piece K 3: leap 0 y",
			"piece K 3: leap 0 1 both", "piece K 3: leap 0 1 Take", "piece K 3: leap 0 1 take ", "piece K 3: leap 0 1 take quiet", "piece K 3: leap 0 1 take take",
			"piece K 3: leap 0 1  take", "piece K 3: leap take 0 1", "piece K 3: leap 0 1 1", "piece K 3: leap 0 1 take: step 0 1", "piece K 3: leap 0 1: step 0 1",
			"piece K 3: : leap 0 1", "piece K 3: leap 0 1 a b c d e f g", "piece K 3: leap 0 1, slide 1 1 taken",
		},
		{"piece", "piece P", "pieces P 1"},
		{"", "piece Z 0:", "piece Z -0"},
		{"", "drop", "drops ", " drops", "Drops", "drops 1", "drops drops", "drops\r", "dropsy", "none", "#", "drops\x00"},
		{"", "lose", "lose ", "lose k", "lose KK", "lose  K", "lose K ", "lose 0", "lose -", "lose @", "lose [", "lose .", "loses K", "lose K P"},
		{"", "line", "line ", "line 0", "line 00", "line 03", "line 3 ", "line  3", "line -3", "line +3", "line 10000", "line x", "line 3 3", "line 3."},
		{"", "reach", "reach ", "reach p", "reach PP", "reach  P", "reach P ", "reach 0", "reach \xff", "Reach P"},
		{"", "stuck ", " stuck", "Stuck", "stuck 1", "stucks", "stuc"},
		{"", "plies", "plies ", "plies 040", "plies 00", "plies  40", "plies 40 ", "plies -40", "plies 10000", "plies 4e1", "plies forty", "plies 40\r", "ply 40"},
	} {
		for _, line := range lines {
			expectFault(t, inLine(n, line), api.Fault{Code: api.ErrSyntax, At: n})
		}
	}
}

func TestReadFaultsInOrder(t *testing.T) {
	const start, piece, plies = "start K w -/-\n", "piece K 3\n", "plies 3\n"
	for _, x := range []struct {
		s  string
		at int
	}{
		{"", 0},
		{"\n", 0},
		{"\n\n", 0},
		{"x", 0},
		{"start K w -/-", 0},
		{"x\n" + start + piece + plies, 0},
		{piece, 0},
		{plies, 0},
		{"\n" + start + piece + plies, 0},
		{"drops\n" + start + piece + plies, 0},
		{piece + start + plies, 0},
		{start, 1},
		{start + "\n", 1},
		{start + "x", 1},
		{start + plies, 1},
		{start + start, 1},
		{start + "drops\n" + piece + plies, 1},
		{start + "piece K 3", 1},
		{start + piece, 2},
		{start + piece + "plies 3", 2},
		{start + piece + "plies 3\r", 2},
		{start + piece + start + plies, 2},
		{start + piece + "\n" + plies, 2},
		{start + piece + piece, 3},
		{start + piece + plies + "\n", 3},
		{start + piece + plies + "x", 3},
		{start + piece + plies + " ", 3},
		{start + piece + plies + "\x00", 3},
		{start + piece + plies + plies, 3},
		{start + piece + plies + "plies 3", 3},
		{start + piece + plies + piece, 3},
		{start + piece + plies + "stuck\n", 3},
		{start + piece + "drops\n" + piece + plies, 3},
		{start + piece + "drops\ndrops\n" + plies, 3},
		{start + piece + "lose K\nlose K\n" + plies, 3},
		{start + piece + "line 3\nline 3\n" + plies, 3},
		{start + piece + "reach K\nreach K\n" + plies, 3},
		{start + piece + "stuck\nstuck\n" + plies, 3},
		{start + piece + "stuck\n", 3},
		{start + piece + "lose K\ndrops\n" + plies, 3},
		{start + piece + "line 3\nlose K\n" + plies, 3},
		{start + piece + "reach K\nline 3\n" + plies, 3},
		{start + piece + "stuck\nreach K\n" + plies, 3},
		{start + piece + "stuck\ndrops\n" + plies, 3},
		{start + piece + "drops\nlose K\nline 3\nreach K\nstuck\n", 7},
		// The first fault is told, not a later one.
		{start + piece + "drops\nx\ny\n" + "z", 3},
		{"start K w -/-\r\npiece K 3\r\nplies 3\r\n", 0},
	} {
		expectFault(t, x.s, api.Fault{Code: api.ErrSyntax, At: x.at})
	}
}

// These are well written; only P6 is against them.
func TestReadOfWrongRules(t *testing.T) {
	for n, lines := range [][]string{
		{"start ..q/K.P b PP/KP", "start ..Q/K.P b PP/KP", "start ..k/K.P b PQ/KP", "start ..k/K.P b -/A"},
		{
			"piece Q 3: leap 0 1", "piece P 3: leap 0 1", "piece Z 3", "piece K 101", "piece K 9999", "piece K 1000: leap 0 1",
			"piece K 3: leap 0 0", "piece K 3: slide 0 0", "piece K 3: step 0 0", "piece K 3: leap 1 0", "piece K 3: slide 7 6 take", "piece K 3: leap 0 8",
			"piece K 3: step 8 1", "piece K 3: step 0 9999", "piece K 3: step 9999 0 quiet", "piece K 3: leap 0 1" + strings.Repeat(", leap 0 1", 8),
			"piece K 3\npiece K 3", "piece K 3" + pieces("BCDEFGHI"),
		},
		{"piece Q 1"},
		{"piece K 0"},
		{},
		{"lose A", "lose Q"},
		{"line 1", "line 9", "line 10", "line 9999"},
		{"reach A", "reach Q"},
		{},
		{"plies 0", "plies 1001", "plies 9999"},
	} {
		for _, line := range lines {
			expectFault(t, inLine(n, line), api.Fault{Code: api.ErrArg, At: -1})
		}
	}
	// A fault of writing goes ahead of one of meaning.
	expectFault(t, "start Q w -/-\npiece K 101\nplies 0", api.Fault{Code: api.ErrSyntax, At: 2})
	expectFault(t, "start Q w -/-\npiece K 101\nplies 0\n", api.Fault{Code: api.ErrArg, At: -1})
}

func pieces(letters string) string {
	var b strings.Builder
	for i := range len(letters) {
		b.WriteString("\npiece " + letters[i:i+1] + " 0")
	}
	return b.String()
}

// Ten pieces and eight ways are right: see that it is the eleventh and the
// ninth which TestReadOfWrongRules finds.
func TestReadAtTheMost(t *testing.T) {
	for n, line := range map[int]string{
		1: "piece K 3" + pieces("BCDEFGH"),
		2: "piece P 3: leap 0 1" + strings.Repeat(", leap 0 1", 7),
	} {
		s := inLine(n, line)
		r, f := rules.Read(s)
		if again, e := rules.Write(r); f != (api.Fault{}) || again != s || e != api.OK {
			t.Errorf("%q: %+v %v %q %v", s, r, f, again, e)
		}
	}
}

func TestReadOfLongTexts(t *testing.T) {
	const n = 200000
	ways := strings.Repeat(", leap 0 1", n)
	expectFault(t, inLine(2, "piece P 1: leap 0 1"+ways), api.Fault{Code: api.ErrArg, At: -1})
	expectFault(t, inLine(2, "piece P 1: leap 0 1"+ways+", "), api.Fault{Code: api.ErrSyntax, At: 2})
	expectFault(t, inLine(2, "piece P 1: leap"+strings.Repeat(" ", n)), api.Fault{Code: api.ErrSyntax, At: 2})
	expectFault(t, inLine(2, "piece P "+strings.Repeat("1", n)), api.Fault{Code: api.ErrSyntax, At: 2})
	many := strings.Repeat("piece Q 1\n", n)
	expectFault(t, "start . w -/-\n"+many+"plies 1\n", api.Fault{Code: api.ErrArg, At: -1})
	expectFault(t, "start . w -/-\n"+many+"piece Q 01\nplies 1\n", api.Fault{Code: api.ErrSyntax, At: n + 1})
	expectFault(t, "start . w -/-\n"+many, api.Fault{Code: api.ErrSyntax, At: n + 1})
	expectFault(t, strings.Repeat("\n", n), api.Fault{Code: api.ErrSyntax})
}

// The promise again, as patterns: a letter for each kind of line, and the
// order of these letters.
const (
	number  = `(0|[1-9][0-9]{0,3})`
	way     = `(leap|slide|step) ` + number + ` ` + number + `( take| quiet)?`
	ordered = `\A(sp*|sp+d?l?n?r?k?e?)?\z`
)

var linePatterns = map[string]*regexp.Regexp{
	"p": regexp.MustCompile(`\Apiece [A-Z] ` + number + `(: ` + way + `(, ` + way + `)*)?\z`),
	"d": regexp.MustCompile(`\Adrops\z`),
	"l": regexp.MustCompile(`\Alose [A-Z]\z`),
	"n": regexp.MustCompile(`\Aline [1-9][0-9]{0,3}\z`),
	"r": regexp.MustCompile(`\Areach [A-Z]\z`),
	"k": regexp.MustCompile(`\Astuck\z`),
	"e": regexp.MustCompile(`\Aplies ` + number + `\z`),
}

var orderedPattern = regexp.MustCompile(ordered)

func kindOf(line string) string {
	if text, ok := strings.CutPrefix(line, "start "); ok {
		if _, f := board.Read(text); f.Code == api.OK {
			return "s"
		}
	}
	for kind, pattern := range linePatterns {
		if pattern.MatchString(line) {
			return kind
		}
	}
	return "?"
}

// faultyLine is the number of the line at which a text is not written as it
// should be; ok, if there is none.
func faultyLine(s string) (at int, ok bool) {
	lines := strings.Split(s, "\n")
	last := len(lines) - 1
	kinds := ""
	for i, line := range lines[:last] {
		kinds += kindOf(line)
		if !orderedPattern.MatchString(kinds) {
			return i, false
		}
	}
	return last, lines[last] == "" && strings.HasSuffix(kinds, "e")
}

func randomRules(r *rand.Rand) string {
	pick := func(words ...string) string { return words[r.Intn(len(words))] }
	s := "start " + pick("K../..k w -/-", "P b KP/-", "./. w P/Q") + "\n"
	for _, letter := range []string{"K", "P", "Q"} {
		s += "piece " + letter + " " + pick("0", "1", "10", "99", "100", "9999")
		between := ": "
		for range r.Intn(4) {
			s += between + pick("leap", "slide", "step") + " " + pick("0", "1", "2") + " " + pick("1", "2", "2", "7", "7", "12") + pick("", " take", " quiet")
			between = ", "
		}
		s += "\n"
	}
	for _, line := range []string{"drops", "lose K", "line 4", "reach Q", "stuck"} {
		if r.Intn(2) == 0 {
			s += line + "\n"
		}
	}
	return s + "plies " + pick("1", "40", "1000", "1000", "0") + "\n"
}

// changedText has bytes, or a line, put in, taken out or said twice, or ends early.
func changedText(r *rand.Rand, s string) string {
	const bytes = " \n:,/-0123456789AKPQkpq.wbs\x00\xff\r"
	at, c := r.Intn(len(s)), bytes[r.Intn(len(bytes))]
	lines := strings.SplitAfter(s, "\n")
	n, m := r.Intn(len(lines)), r.Intn(len(lines))
	switch r.Intn(8) {
	case 0:
		return s[:at] + string([]byte{c}) + s[at:]
	case 1:
		return s[:at] + s[at+1:]
	case 2:
		return s[:at] + string([]byte{c}) + s[at+1:]
	case 3:
		return s[:at]
	case 4:
		lines[n] = ""
		return strings.Join(lines, "")
	case 5:
		lines[n] += lines[m]
		return strings.Join(lines, "")
	case 6:
		lines[n], lines[m] = lines[m], lines[n]
		return strings.Join(lines, "")
	default:
		return s
	}
}

func TestReadAgainstPatterns(t *testing.T) {
	r := rand.New(rand.NewSource(1))
	right, meant, faulty := 0, 0, 0
	for range 20000 {
		s := changedText(r, randomRules(r))
		at, ok := faultyLine(s)
		got, f := rules.Read(s)
		if !ok {
			faulty++
			if !reflect.DeepEqual(got, api.Rules{}) || f != (api.Fault{Code: api.ErrSyntax, At: at}) {
				t.Fatalf("%q: %+v %v, not at %d", s, got, f, at)
			}
			continue
		}
		if f == (api.Fault{Code: api.ErrArg, At: -1}) && reflect.DeepEqual(got, api.Rules{}) {
			meant++
			continue
		}
		right++
		if again, e := rules.Write(got); f != (api.Fault{}) || e != api.OK || again != s {
			t.Fatalf("%q: %+v %v %q %v", s, got, f, again, e)
		}
	}
	if right < 500 || meant < 500 || faulty < 500 {
		t.Error("too few of a kind:", right, meant, faulty)
	}
}
