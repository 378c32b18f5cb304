package house_test

import (
	"maps"
	"math/big"
	"regexp"
	"slices"
	"strconv"
	"strings"
	"testing"

	"parlour/api"
	"parlour/board"
	"parlour/house"
	"parlour/moves"
	"parlour/rules"
)

// What stands here says the promises over again, slowly: a story has all that
// was done, and what comes of it is worked out from Start on for each question.

// stretch of time that went by, and whose time it was.
type stretch struct{ player, long int }

type story struct {
	r     api.Rules
	time  int
	gone  []stretch
	moves []string
	whens []int
}

func (s *story) now() (n int) {
	for _, x := range s.gone {
		n += x.long
	}
	return n
}

func (s *story) left(player int) int {
	n := s.time
	for _, x := range s.gone {
		if x.player == player {
			n -= x.long
		}
	}
	return n
}

// texts are all moves there are, each with the position behind it.
func texts(r api.Rules, p api.Position) map[string]api.Position {
	all := map[string]api.Position{}
	l, _ := moves.Moves(r, p)
	for _, m := range l {
		s, _ := moves.Text(r, p, m)
		all[s], _ = moves.Apply(r, p, m)
	}
	return all
}

func (s *story) pos() api.Position {
	p := s.r.Start
	for _, m := range s.moves {
		p = texts(s.r, p)[m]
	}
	return p
}

func (s *story) outcome() int {
	if s.left(0) < 0 {
		return api.Second
	}
	if s.left(1) < 0 {
		return api.First
	}
	o, _ := moves.Outcome(s.r, s.pos())
	if o == api.Open && len(s.moves) == s.r.Plies {
		return api.Draw
	}
	return o
}

// kind is what is done with a message, and what is said of it.
func (s *story) kind(m api.Msg) int {
	if s.outcome() != api.Open {
		return api.Over
	}
	p := s.pos()
	if now := s.now(); m.At > now {
		s.gone = append(s.gone, stretch{p.Turn, m.At - now})
	}
	if s.outcome() != api.Open {
		return api.Over
	}
	if m.Ply != len(s.moves) {
		return api.Stale
	}
	if m.Seat != p.Turn {
		return api.Wait
	}
	if _, is := texts(s.r, p)[m.Move]; !is {
		return api.Bad
	}
	s.moves, s.whens = append(s.moves, m.Move), append(s.whens, s.now())
	return api.Done
}

func (s *story) take(m api.Msg) api.Reply {
	k := s.kind(m)
	text, _ := board.Write(s.pos())
	return api.Reply{Kind: k, Ply: len(s.moves), Outcome: s.outcome(), Pos: text}
}

func (s *story) save() string {
	var l []string
	for i, m := range s.moves {
		l = append(l, strconv.Itoa(i)+" "+strconv.Itoa(s.whens[i])+" "+m+"\n")
	}
	return strings.Join(l, "")
}

// lineForm is what a saved line looks like; a time may have any number of digits.
const lineForm = `^(0|[1-9][0-9]*) (0|[1-9][0-9]*) ([^\n]*)\n`

// opened is what a text makes, told from the first line on again for each line.
func opened(r api.Rules, time int, text string) *story {
	form := regexp.MustCompile(lineForm)
	var done []api.Msg
	for {
		parts := form.FindStringSubmatch(text)
		if parts == nil || parts[1] != strconv.Itoa(len(done)) {
			break
		}
		at, _ := new(big.Int).SetString(parts[2], 10)
		if !at.IsInt64() || len(done) > 0 && int(at.Int64()) < done[len(done)-1].At {
			break
		}
		seat := (r.Start.Turn + len(done)) % 2
		m := api.Msg{Seat: seat, Ply: len(done), Move: parts[3], At: int(at.Int64())}
		if retold(r, time, done).kind(m) != api.Done {
			break
		}
		done, text = append(done, m), text[len(parts[0]):]
	}
	return retold(r, time, done)
}

func retold(r api.Rules, time int, done []api.Msg) *story {
	s := &story{r: r, time: time}
	for _, m := range done {
		s.kind(m)
	}
	return s
}

// game is rules that are written line by line.
func game(t *testing.T, lines ...string) api.Rules {
	t.Helper()
	r, f := rules.Read(strings.Join(lines, "\n") + "\n")
	if f.Code != api.OK {
		t.Fatal(lines, f)
	}
	return r
}

// games are short ones, with all kinds of ends.
func games(t *testing.T) map[string]api.Rules {
	t.Helper()
	return map[string]api.Rules{
		"kings":   game(t, "start K.k w -/-", "piece K 0: leap 0 1", "lose K", "plies 9"),
		"pawns":   game(t, "start ppp/.../PPP w -/-", "piece P 1: step 0 1 quiet, step 1 1 take", "reach P", "stuck", "plies 9"),
		"noughts": game(t, "start .../.../... b XXXXX/XXXXX", "piece X 0", "drops", "line 3", "plies 9"),
		"walk":    game(t, "start ..k/.../K.. w -/-", "piece K 0: leap 0 1 quiet", "plies 13"),
		"full":    game(t, "start .. b XX/X", "piece X 0", "drops", "plies 40"),
		"one":     game(t, "start K.k b -/-", "piece K 0: leap 0 1", "lose K", "plies 1"),
		"two":     game(t, "start K.k b -/-", "piece K 0: leap 0 1", "lose K", "plies 2"),
		"won":     game(t, "start K.. b -/-", "piece K 0: leap 0 1", "lose K", "plies 9"),
		"lost":    game(t, "start K.. w -/-", "piece K 0", "stuck", "plies 9"),
		"still":   game(t, "start K.. w -/-", "piece K 0", "plies 1"),
	}
}

// inOrder are the names of games, so that each run of the tests is the same.
func inOrder(all map[string]api.Rules) []string { return slices.Sorted(maps.Keys(all)) }

func newHouse(t *testing.T, r api.Rules, time int) *house.House {
	t.Helper()
	h, e := house.New(r, time)
	if h == nil || e != api.OK {
		t.Fatal(h, e)
	}
	return h
}
