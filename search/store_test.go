package search

import (
	"sync"
	"testing"

	"parlour/api"
)

func asked(cells string, turn, depth int, hands ...string) question {
	p := api.Position{W: len(cells), H: 1, Cells: cells, Turn: turn}
	copy(p.Hands[:], hands)
	return question{p, depth}
}

func anything(depth int) span { return span{-(10000 + depth), 10000 + depth} }

// Questions that differ in whatever it is are different, though all are kept in
// one slot.
func TestOneSlot(t *testing.T) {
	one := asked("A.b", 0, 2, "A", "B")
	for _, other := range []question{
		asked("A.b", 0, 1, "A", "B"),
		asked("A.b", 0, 3, "A", "B"),
		asked("A.b", 1, 2, "A", "B"),
		asked("Ab.", 0, 2, "A", "B"),
		asked("A.b", 0, 2, "AB", ""),
		asked("A.b", 0, 2, "", "AB"),
		asked("A.b", 0, 2, "B", "A"),
		asked("A.b.", 0, 2, "A", "B"),
	} {
		s := make(store, 1)
		if k := s.recall(one); k != anything(2) {
			t.Error("new:", k)
		}
		s.keep(one, span{1, 2})
		if k := s.recall(one); k != (span{1, 2}) {
			t.Error("kept:", k)
		}
		if k := s.recall(other); k != anything(other.depth) {
			t.Error(other, "was never kept:", k)
		}
		s.keep(other, span{5, 6})
		ofOne, ofOther := anything(2), span{5, 6}
		if other.depth < 2 {
			ofOne, ofOther = span{1, 2}, anything(other.depth)
		}
		if a, b := s.recall(one), s.recall(other); a != ofOne || b != ofOther {
			t.Error(other, a, b)
		}
	}
}

func TestMoreIsKnown(t *testing.T) {
	q := asked("A.b", 0, 2)
	for _, n := range []int{1, 2, 7, 65536} {
		s := make(store, n)
		for _, x := range []struct{ known, all span }{
			{span{-50, 10002}, span{-50, 10002}},
			{span{-10002, 40}, span{-50, 40}},
			{span{-60, 50}, span{-50, 40}},
			{span{7, 7}, span{7, 7}},
		} {
			s.keep(q, x.known)
			if k := s.recall(q); k != x.all {
				t.Error(n, x, k)
			}
		}
	}
}

func TestNoSlots(t *testing.T) {
	var s store
	q := asked("A.b", 0, 2)
	s.keep(q, span{1, 1})
	if k := s.recall(q); k != anything(2) {
		t.Error(k)
	}
}

// What many keep in one slot at the same time is never half of one and half of
// another.
func TestSlotOfMany(t *testing.T) {
	s := make(store, 1)
	cells := []string{"A..", "bb.", "..C", "d.d"}
	var group sync.WaitGroup
	for w := range 8 {
		group.Go(func() {
			for i := range 5000 {
				n := (i + w) % len(cells)
				q := asked(cells[n], 0, 2)
				s.keep(q, span{n, n})
				if k := s.recall(q); k != (span{n, n}) && k != anything(2) {
					t.Error(n, k)
					return
				}
			}
		})
	}
	group.Wait()
}

// Positions are to be spread over the slots, or many of these were of no use.
func TestSpread(t *testing.T) {
	const slots = 1000
	s := make(store, slots)
	used := map[*slot]int{}
	cells := []byte("......")
	for i := range 5000 {
		for k, n := 0, i; k < len(cells); k, n = k+1, n/5 {
			cells[k] = ".AaBb"[n%5]
		}
		used[s.slotOf(asked(string(cells), i%2, 1+i%6))]++
	}
	if len(used) < slots*9/10 {
		t.Error(len(used), "slots are used")
	}
}

// Whoever is through first: of moves with the same score the first one leads.
func TestLead(t *testing.T) {
	l := lead{score: -100, number: 9}
	for _, x := range []struct{ number, bar, score, best, first int }{
		{5, -101, -20, -20, 5},
		{6, -20, -20, -20, 5},
		{3, -21, -21, -20, 5},
		{4, -21, -20, -20, 4},
		{7, -20, 3, 3, 7},
		{8, 3, 3, 3, 7},
		{0, 2, 3, 3, 0},
		{1, 3, 3, 3, 0},
		{2, 3, 2, 3, 0},
	} {
		if bar := l.bar(x.number); bar != x.bar {
			t.Errorf("%+v: bar %d", x, bar)
		}
		l.offer(x.score, x.number)
		if l.score != x.best || l.number != x.first {
			t.Errorf("%+v: %d %d", x, l.score, l.number)
		}
	}
}

func TestLeadOfMany(t *testing.T) {
	for range 50 {
		l := lead{score: -1, number: 100}
		var group sync.WaitGroup
		for w := range 10 {
			group.Go(func() {
				for i := 99 - w; i >= 0; i -= 10 {
					l.offer(i%7, i)
				}
			})
		}
		group.Wait()
		if l.score != 6 || l.number != 6 {
			t.Fatal(l.score, l.number)
		}
	}
}

// A score is told just so between its bounds; else it is on the same side of
// them, and says something that is right.
func TestBounds(t *testing.T) {
	r := api.Rules{
		Start:  api.Position{W: 3, H: 3, Cells: "R.Pp..r.q"},
		Pieces: []api.Piece{{Letter: 'R', Worth: 5, Ways: []api.Way{{Kind: api.Slide, Y: 1}}}, {Letter: 'P', Worth: 1}, {Letter: 'Q', Worth: 3, Ways: []api.Way{{Kind: api.Leap, X: 1, Y: 1}}}},
		Plies:  9,
	}
	for depth := range 5 {
		h := &hunt{rules: r, worths: worthsOf(r.Pieces)}
		q := question{r.Start, depth}
		exact := h.score(q, -20000, 20000)
		for low := exact - 4; low <= exact+4; low++ {
			for high := low + 1; high <= exact+5; high++ {
				for _, slots := range []int{0, 1, 50} {
					h.kept = make(store, slots)
					for range 2 {
						n := h.score(q, low, high)
						switch {
						case exact <= low && (n < exact || n > low), exact >= high && (n > exact || n < high):
							t.Error(depth, low, high, slots, "of", exact, "it says", n)
						case low < exact && exact < high && n != exact:
							t.Error(depth, low, high, slots, n, "is not", exact)
						}
					}
				}
			}
		}
	}
}
