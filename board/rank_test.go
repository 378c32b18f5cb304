package board_test

import (
	"math"
	"math/big"
	"math/rand"
	"slices"
	"strings"
	"testing"

	"parlour/api"
	"parlour/board"
)

// allOfKind are all orders of the bytes of cells, by the orders' bytes.
func allOfKind(cells string) []string {
	letters := []byte(cells)
	slices.Sort(letters)
	var l []string
	var extend func(ahead string, rest []byte)
	extend = func(ahead string, rest []byte) {
		if len(rest) == 0 {
			l = append(l, ahead)
		}
		for i, c := range rest {
			if i == 0 || rest[i-1] != c {
				extend(ahead+string(c), slices.Delete(slices.Clone(rest), i, i+1))
			}
		}
	}
	extend("", letters)
	return l
}

func TestRanksOfWholeKinds(t *testing.T) {
	for _, p := range []api.Position{
		{W: 1, H: 1, Cells: "."},
		{W: 3, H: 1, Cells: "..A"},
		{W: 2, H: 2, Cells: "zzzz", Turn: 1},
		{W: 2, H: 2, Cells: "zA.a", Hands: [2]string{"AB", "CCZ"}},
		{W: 3, H: 2, Cells: "A.zZ.a", Turn: 1, Hands: [2]string{"", "Q"}},
		{W: 2, H: 4, Cells: "aAaA..bB"},
		{W: 3, H: 3, Cells: "kK......Z"},
	} {
		all := allOfKind(p.Cells)
		if n, e := board.Count(p); n != int64(len(all)) || e != api.OK {
			t.Errorf("%q: Count %d %v, not %d", p.Cells, n, e, len(all))
		}
		for i, cells := range all {
			for turn := range 2 {
				q := p
				q.Cells, q.Turn = cells, turn
				n := int64(2*i + turn)
				if m, e := board.Rank(q); m != n || e != api.OK {
					t.Errorf("%+v: Rank %d %v, not %d", q, m, e, n)
				}
				if u, e := board.Unrank(p, n); u != q || e != api.OK {
					t.Errorf("%+v: Unrank %d: %+v %v", p, n, u, e)
				}
			}
		}
		for _, n := range []int64{math.MinInt64, -2, -1, int64(2 * len(all)), int64(2*len(all) + 1), math.MaxInt64} {
			if u, e := board.Unrank(p, n); u != (api.Position{}) || e != api.ErrRange {
				t.Errorf("%+v: Unrank %d: %+v %v", p, n, u, e)
			}
		}
	}
}

// square has n letters K on 8 times 8 cells.
func square(n int) api.Position {
	return api.Position{W: 8, H: 8, Cells: strings.Repeat(".", 64-n) + strings.Repeat("K", n), Hands: [2]string{"A", ""}}
}

// Of 64 cells 28 can be chosen in fewer than 2^60 ways, 29 in more.
func TestEdgeOfLarge(t *testing.T) {
	const most = 1118770292985239888
	p := square(28)
	if n, e := board.Count(p); n != most || e != api.OK {
		t.Error(n, e)
	}
	if n, e := board.Rank(p); n != 0 || e != api.OK {
		t.Error(n, e)
	}
	last := p
	last.Cells, last.Turn = strings.Repeat("K", 28)+strings.Repeat(".", 36), 1
	if n, e := board.Rank(last); n != 2*most-1 || e != api.OK {
		t.Error(n, e)
	}
	if q, e := board.Unrank(p, 2*most-1); q != last || e != api.OK {
		t.Error(q, e)
	}
	if q, e := board.Unrank(p, 2*most); q != (api.Position{}) || e != api.ErrRange {
		t.Error(q, e)
	}
}

func TestLarge(t *testing.T) {
	const letters = "ABCDEFGHIJKLMNOPQRSTUVWXYZabcdefghijklmnopqrstuvwxyz"
	for _, p := range []api.Position{
		square(29),
		square(32),
		square(35),
		{W: 8, H: 8, Cells: letters + "............"},
		{W: 8, H: 8, Cells: letters + "AAAAAAAAAAAA"},
	} {
		if n, e := board.Count(p); n != 0 || e != api.ErrLarge {
			t.Error(p.Cells, "Count:", n, e)
		}
		if n, e := board.Rank(p); n != 0 || e != api.ErrLarge {
			t.Error(p.Cells, "Rank:", n, e)
		}
		for _, n := range []int64{math.MinInt64, -1, 0, math.MaxInt64} {
			if q, e := board.Unrank(p, n); q != (api.Position{}) || e != api.ErrLarge {
				t.Error(p.Cells, "Unrank:", n, q, e)
			}
		}
	}
}

func bigCount(cells string) *big.Int {
	n := new(big.Int).MulRange(1, int64(len(cells)))
	counts := map[byte]int64{}
	for i := range len(cells) {
		counts[cells[i]]++
	}
	for _, k := range counts {
		n.Quo(n, new(big.Int).MulRange(1, k))
	}
	return n
}

func randomPosition(r *rand.Rand) api.Position {
	p := api.Position{W: 1 + r.Intn(8), H: 1 + r.Intn(8), Turn: r.Intn(2)}
	letters := ".aZKkbBzAqrstuvwxy"[:1+r.Intn(18)]
	dots := r.Intn(10)
	cells := make([]byte, p.W*p.H)
	for i := range cells {
		cells[i] = '.'
		if r.Intn(10) >= dots {
			cells[i] = letters[r.Intn(len(letters))]
		}
	}
	p.Cells = string(cells)
	p.Hands = [2]string{"AAB"[:r.Intn(4)], "KZZ"[:r.Intn(4)]}
	return p
}

func TestRanksOfManyKinds(t *testing.T) {
	r, limit, large := rand.New(rand.NewSource(1)), big.NewInt(1<<60), 0
	for range 5000 {
		p := randomPosition(r)
		want := bigCount(p.Cells)
		n, e := board.Count(p)
		if want.Cmp(limit) > 0 {
			large++
			if n != 0 || e != api.ErrLarge {
				t.Errorf("%+v: %d %v, not %v", p, n, e, want)
			}
			continue
		}
		if n != want.Int64() || e != api.OK {
			t.Errorf("%+v: %d %v, not %v", p, n, e, want)
			continue
		}
		rank, _ := board.Rank(p)
		if q, e := board.Unrank(p, rank); q != p || e != api.OK {
			t.Errorf("%+v: rank %d is %+v %v", p, rank, q, e)
		}
		other := r.Int63n(2 * n)
		q, _ := board.Unrank(p, other)
		if m, e := board.Rank(q); m != other || e != api.OK {
			t.Errorf("%+v: number %d has rank %d %v", p, other, m, e)
		}
	}
	if large < 100 || large > 4900 {
		t.Error(large, "of the kinds were too large")
	}
}
