package nim_test

import (
	"math"
	"reflect"
	"regexp"
	"slices"
	"strings"
	"sync"
	"testing"

	"parlour/api"
	"parlour/nim"
)

func grundyFails(t *testing.T, code string, n int, want api.Errno) {
	t.Helper()
	if g, e := nim.Grundy(code, n); g != nil || e != want {
		t.Errorf("%q %d: %v %v, not %v", code, n, g, e, want)
	}
}

func winFails(t *testing.T, code string, heaps []int, want api.Errno) {
	t.Helper()
	if won, m, e := nim.Win(code, heaps); won || !reflect.DeepEqual(m, api.Heaps{}) || e != want {
		t.Errorf("%q %v: %v %v %v, not %v", code, heaps, won, m, e, want)
	}
}

// lost: there is no move to be told.
func lost(t *testing.T, code string, heaps ...int) {
	t.Helper()
	winFails(t, code, heaps, api.OK)
}

func wins(t *testing.T, code string, heaps []int, heap int, left ...int) {
	t.Helper()
	won, m, e := nim.Win(code, heaps)
	if !won || !sameMove(m, api.Heaps{Heap: heap, Left: left}) || e != api.OK {
		t.Errorf("%q %v: %v %v %v, not %d %v", code, heaps, won, m, e, heap, left)
	}
}

func TestNoCodes(t *testing.T) {
	for _, code := range []string{
		"", "0", ".", "0.", "3", "33", "333", ".3", "1.3", "00.3", "0,3", "0:3", "0..3", "0.3.", "0.3.3", "0.0.3", "00", "O.3", "3.0",
		"0.8", "0.9", "0.38", "0.83", "0.333338", "0.933333", "0.3333338", "0.1111111", "0.0000000", "0.1234567", "0.11111111", "0." + strings.Repeat("7", 1000),
		" 0.3", "0.3 ", "0. 3", "0 .3", "0.3\n", "0.3\x00", "\x000.3", "0.-3", "-0.3", "+0.3", "0.+3", "0.3a", "0.a", "0./", "0.:", "0.3/", "0.:3", "0.x7", "0x.7", "0.7e1",
		"0.\xff", "0.\xb3", "0.3\x80", "\xb0.3", "0\xae3", "0.３", "0.٣", "0·3", "０.3", "0.³",
	} {
		for _, n := range []int{0, 3, 400, -1, 401, math.MinInt, math.MaxInt} {
			grundyFails(t, code, n, api.ErrSyntax)
		}
		for _, heaps := range [][]int{nil, {}, {0}, {1, 2}, {-1}, {401}, make([]int, 20), make([]int, 21)} {
			winFails(t, code, heaps, api.ErrSyntax)
		}
	}
}

// Each byte, in each place of a code.
func TestBytesOfCodes(t *testing.T) {
	right := regexp.MustCompile(`\A0\.[0-7]{1,6}\z`)
	for _, code := range []string{"0.3", "0.77", "0.137", "0.0007", "0.12345", "0.765432"} {
		for i := range len(code) {
			for b := range 256 {
				changed := []byte(code)
				changed[i] = byte(b)
				longer := slices.Insert([]byte(code), i, byte(b))
				for _, text := range []string{string(changed), string(longer), code[:i], code[i:]} {
					want := api.ErrSyntax
					if right.MatchString(text) {
						want = api.OK
					}
					if g, e := nim.Grundy(text, 4); e != want || (e == api.OK) != (len(g) == 5) {
						t.Fatalf("%q: %v %v", text, g, e)
					}
					if _, _, e := nim.Win(text, []int{4}); e != want {
						t.Fatalf("%q: %v", text, e)
					}
				}
			}
		}
	}
}

func TestHowManyThings(t *testing.T) {
	for _, code := range []string{"0.0", "0.3", "0.137", "0.777777"} {
		for _, n := range []int{math.MinInt, -400, -2, -1, 401, 402, 1000, 1 << 32, math.MaxInt} {
			grundyFails(t, code, n, api.ErrRange)
		}
		all, e := nim.Grundy(code, 400)
		if len(all) != 401 || e != api.OK {
			t.Fatal(code, all, e)
		}
		for _, n := range []int{0, 1, 2, 6, 7, 8, 399} {
			if g, e := nim.Grundy(code, n); e != api.OK || !slices.Equal(g, all[:n+1]) {
				t.Error(code, n, g, e)
			}
		}
	}
}

func TestValuesOfHeaps(t *testing.T) {
	for code, want := range map[string][]int{
		"0.0":      {0, 0, 0, 0, 0, 0, 0, 0},
		"0.000000": {0, 0, 0, 0, 0, 0, 0, 0},
		// Nothing is left: of so many things just all can be taken.
		"0.1":      {0, 1, 0, 0, 0, 0, 0, 0},
		"0.01":     {0, 0, 1, 0, 0, 0, 0, 0},
		"0.111111": {0, 1, 1, 1, 1, 1, 1, 0, 0},
		// One heap is left, with at least one thing.
		"0.2":      {0, 0, 1, 0, 1, 0, 1, 0},
		"0.222222": {0, 0, 1, 2, 3, 4, 5, 6, 0, 1, 2, 3, 4, 5, 6, 0},
		"0.000002": {0, 0, 0, 0, 0, 0, 0, 1, 1, 1, 1, 1, 1, 0},
		"0.3":      {0, 1, 0, 1, 0, 1, 0, 1},
		"0.03":     {0, 0, 1, 1, 0, 0, 1, 1, 0},
		"0.33":     {0, 1, 2, 0, 1, 2, 0, 1, 2},
		"0.333333": {0, 1, 2, 3, 4, 5, 6, 0, 1, 2, 3, 4, 5, 6, 0},
		// Two heaps are left, each with at least one thing.
		"0.4":    {0, 0, 0, 1, 1, 2, 0, 3, 1},
		"0.0004": {0, 0, 0, 0, 0, 0, 1, 1, 1, 1},
		"0.7":    {0, 1, 0, 1, 0, 1, 0, 1, 0},
		// Kayles, Dawson's Kayles, Dawson's chess, and others that are known.
		"0.77":  {0, 1, 2, 3, 1, 4, 3, 2, 1, 4, 2, 6, 4, 1, 2, 7, 1, 4, 3, 2, 1, 4, 6, 7},
		"0.07":  {0, 0, 1, 1, 2, 0, 3, 1, 1, 0, 3, 3, 2, 2, 4, 0, 5, 2, 2, 3, 3, 0, 1, 1, 3, 0, 2, 1, 1, 0, 4, 5, 2, 7, 4},
		"0.137": {0, 1, 1, 2, 0, 3, 1, 1, 0, 3, 3, 2, 2, 4, 0, 5, 2, 2, 3, 3, 0, 1, 1, 3, 0, 2, 1, 1, 0, 4, 5, 2, 7, 4},
	} {
		if g, e := nim.Grundy(code, len(want)-1); e != api.OK || !slices.Equal(g, want) {
			t.Error(code, g, e, want)
		}
	}
}

// From some number on these come again and again: for so long as that is known,
// they do so here.
func TestPeriods(t *testing.T) {
	for _, x := range []struct {
		code         string
		from, period int
		last         []int
	}{
		{"0.77", 71, 12, []int{4, 1, 2, 8, 1, 4, 7, 2, 1, 8, 2, 7}},
		{"0.07", 53, 34, nil},
		{"0.137", 52, 34, nil},
		{"0.333333", 0, 7, []int{0, 1, 2, 3, 4, 5, 6}},
	} {
		g, _ := nim.Grundy(x.code, 400)
		for n := x.from; n+x.period <= 400; n++ {
			if g[n] != g[n+x.period] {
				t.Error(x.code, n, g[n], g[n+x.period])
			}
			if x.last != nil && g[n] != x.last[n%x.period] {
				t.Error(x.code, n, g[n])
			}
		}
		if x.from > 0 && g[x.from-1] == g[x.from-1+x.period] {
			t.Error(x.code, "is of that period sooner")
		}
	}
}

func TestWrongHeaps(t *testing.T) {
	some := slices.Repeat([]int{5}, 20)
	for _, code := range []string{"0.0", "0.3", "0.777777"} {
		for _, n := range []int{math.MinInt, -401, -1, 401, 402, math.MaxInt} {
			winFails(t, code, []int{n}, api.ErrRange)
			for _, place := range []int{0, 1, 19} {
				heaps := slices.Clone(some)
				heaps[place] = n
				winFails(t, code, heaps, api.ErrRange)
			}
		}
		for _, many := range []int{21, 22, 1000} {
			winFails(t, code, make([]int, many), api.ErrRange)
			winFails(t, code, slices.Repeat([]int{1}, many), api.ErrRange)
			winFails(t, code, slices.Repeat([]int{-1}, many), api.ErrRange)
		}
	}
}

func TestHeapsAtTheEdges(t *testing.T) {
	for _, code := range []string{"0.0", "0.3", "0.137", "0.777777"} {
		lost(t, code)
		lost(t, code, 0)
		lost(t, code, make([]int, 20)...)
		lost(t, code, slices.Repeat([]int{400}, 20)...)
	}
	wins(t, "0.33", []int{400}, 0, 399)
	wins(t, "0.3", slices.Concat(make([]int, 19), []int{1}), 19)
	wins(t, "0.3", slices.Concat(make([]int, 18), []int{400, 399}), 18, 399)
	wins(t, "0.333333", slices.Concat(slices.Repeat([]int{400}, 19), []int{399}), 0, 399)
	wins(t, "0.333333", slices.Concat(slices.Repeat([]int{395}, 18), []int{0, 396}), 19, 392)
	wins(t, "0.000004", []int{0, 0, 8}, 2, 1, 1)
	lost(t, "0.000004", 7)
}

// Where nothing can be taken who is to move has lost, however much there is.
func TestNothingCanBeTaken(t *testing.T) {
	for _, heaps := range [][]int{{1}, {400}, {1, 2, 3}, {0, 7}, slices.Repeat([]int{399}, 19)} {
		lost(t, "0.0", heaps...)
		lost(t, "0.000", heaps...)
		lost(t, "0.000000", heaps...)
	}
	// Too many things, or too few.
	lost(t, "0.1", 2)
	lost(t, "0.1", 400, 3, 0)
	lost(t, "0.01", 1)
	lost(t, "0.01", 3, 1)
	lost(t, "0.2", 1)
	lost(t, "0.002", 1, 2, 3)
	lost(t, "0.4", 1, 2)
	lost(t, "0.000007", 5, 4, 3, 2, 1)
	wins(t, "0.000007", []int{5, 4, 3, 2, 1, 6}, 5)
	wins(t, "0.000007", []int{7, 5}, 0, 1)
	wins(t, "0.000006", []int{6, 7}, 1, 1)
	wins(t, "0.000001", []int{5, 7, 6}, 2)
}

func TestFirstWinningMove(t *testing.T) {
	// By the heap's place.
	wins(t, "0.3", []int{1, 1, 1}, 0)
	wins(t, "0.3", []int{0, 2, 3, 5, 5}, 1, 1)
	wins(t, "0.333", []int{2, 3, 3}, 0)
	wins(t, "0.333", []int{3, 2, 3}, 0, 1)
	wins(t, "0.333", []int{1, 2, 2, 2}, 1, 1)
	wins(t, "0.333", []int{1, 1, 3}, 2)
	// Also where the heap is worth more behind the move than ahead of it.
	wins(t, "0.333", []int{4, 3}, 0, 3)
	wins(t, "0.333", []int{3, 4}, 0)
	wins(t, "0.333", []int{5, 2, 4}, 0, 2)
	// By how many things are taken.
	wins(t, "0.333333", []int{6}, 0)
	wins(t, "0.333333", []int{8}, 0, 7)
	wins(t, "0.333333", []int{13}, 0, 7)
	wins(t, "0.111111", []int{4, 2, 2}, 0)
	wins(t, "0.0022", []int{6}, 0, 3)
	wins(t, "0.0202", []int{5}, 0, 1)
	wins(t, "0.0222", []int{5}, 0, 2)
	wins(t, "0.0242", []int{5}, 0, 1, 1)
	wins(t, "0.5555", []int{4}, 0, 1, 2)
	wins(t, "0.0421", []int{4}, 0, 1, 1)
	wins(t, "0.0021", []int{4}, 0, 1)
	wins(t, "0.0001", []int{4}, 0)
	// Then nothing left, one heap, two of them.
	wins(t, "0.7", []int{1}, 0)
	wins(t, "0.2", []int{2}, 0, 1)
	wins(t, "0.4", []int{3}, 0, 1, 1)
	wins(t, "0.6", []int{3}, 0, 1, 1)
	wins(t, "0.7", []int{3}, 0, 2)
	wins(t, "0.06", []int{4}, 0, 2)
	wins(t, "0.04", []int{4}, 0, 1, 1)
	wins(t, "0.007", []int{5}, 0, 2)
	wins(t, "0.004", []int{5}, 0, 1, 1)
	// Of two the smaller one first, by how small it is.
	wins(t, "0.0004", []int{8}, 0, 1, 3)
	wins(t, "0.0004", []int{9}, 0, 1, 4)
	wins(t, "0.000004", []int{12}, 0, 1, 5)
	wins(t, "0.4", []int{7}, 0, 3, 3)
	wins(t, "0.4", []int{8}, 0, 1, 6)
	wins(t, "0.77", []int{9}, 0, 4, 4)
	wins(t, "0.77", []int{10}, 0, 1, 8)
	wins(t, "0.77", []int{11, 5}, 0, 9)
}

// What is answered is new memory, and what is handed in stays.
func TestHeapsStay(t *testing.T) {
	spare := []int{2, 3, 3, 7, 8, 9}
	before := slices.Clone(spare)
	_, m, _ := nim.Win("0.777", spare[:3])
	g, _ := nim.Grundy("0.777", 9)
	if !slices.Equal(spare, before) {
		t.Error(spare)
	}
	for _, list := range [][]int{m.Left, g} {
		list = list[:cap(list)]
		for i := range list {
			list[i] = -1
		}
	}
	if !slices.Equal(spare, before) {
		t.Error(spare)
	}
	_, again, _ := nim.Win("0.777", spare[:3])
	h, _ := nim.Grundy("0.777", 9)
	if again.Heap != m.Heap || slices.Contains(again.Left, -1) || !slices.Equal(h, slowGrundy("0.777", 9)) {
		t.Error(again, h)
	}
}

func TestCallsAtTheSameTime(t *testing.T) {
	codes := []string{"0.77", "0.137", "0.333333", "0.4"}
	heaps := []int{11, 5, 400}
	next := [][]int{nil, {0}, {0, 1}, {2, 1}}
	var group sync.WaitGroup
	for i := range 16 {
		group.Go(func() {
			code := codes[i%len(codes)]
			want := slowGrundy(code, 40)
			for range 5 {
				g, _ := nim.Grundy(code, 40)
				v, _ := nim.Values(next)
				both, _ := nim.Both(next, next)
				_, _, e := nim.Win(code, heaps)
				if !slices.Equal(g, want) || !slices.Equal(v, []int{0, 1, 2, 0}) || len(both) != 16 || e != api.OK {
					t.Error(code, g, v, both, e)
				}
			}
		})
	}
	group.Wait()
}
