package nim_test

import (
	"math/rand"
	"slices"
	"strconv"
	"testing"

	"parlour/api"
	"parlour/nim"
)

// What stands here says the promises over again, in another way and slowly. Who
// wins is found by playing on to the end, without any values.

// slowMoves are all moves from these heaps, in the order that P18 tells; some
// of them leave the same.
func slowMoves(code string, heaps []int) []api.Heaps {
	var all []api.Heaps
	for place, n := range heaps {
		for k := 1; k <= 6 && k < len(code)-1; k++ {
			digit, _ := strconv.Atoi(code[k+1 : k+2])
			if digit%2 == 1 && n == k {
				all = append(all, api.Heaps{Heap: place})
			}
			if digit/2%2 == 1 && n > k {
				all = append(all, api.Heaps{Heap: place, Left: []int{n - k}})
			}
			for a := 1; a < n; a++ {
				for b := a; b < n; b++ {
					if digit/4 == 1 && a+b+k == n {
						all = append(all, api.Heaps{Heap: place, Left: []int{a, b}})
					}
				}
			}
		}
	}
	return all
}

func behind(heaps []int, m api.Heaps) []int {
	return slices.Concat(heaps[:m.Heap], heaps[m.Heap+1:], m.Left)
}

// player knows of positions of one code whether who is to move wins.
type player struct {
	code  string
	known map[string]int
}

func (p player) wins(heaps []int) bool {
	heaps = slices.Sorted(slices.Values(heaps))
	var key []byte
	for _, n := range heaps {
		key = append(strconv.AppendInt(key, int64(n), 10), ' ')
	}
	if n, ok := p.known[string(key)]; ok {
		return n == 1
	}
	_, won := p.firstMove(heaps)
	p.known[string(key)] = 0
	if won {
		p.known[string(key)] = 1
	}
	return won
}

// firstMove is the first one behind which the other player does not win.
func (p player) firstMove(heaps []int) (api.Heaps, bool) {
	for _, m := range slowMoves(p.code, heaps) {
		if !p.wins(behind(heaps, m)) {
			return m, true
		}
	}
	return api.Heaps{}, false
}

func randomCode(rnd *rand.Rand, digits int) string {
	code := []byte("0.")
	for range digits {
		code = append(code, byte('0'+rnd.Intn(8)))
	}
	return string(code)
}

func sameMove(a, b api.Heaps) bool { return a.Heap == b.Heap && slices.Equal(a.Left, b.Left) }

func TestManyHeaps(t *testing.T) {
	rnd := rand.New(rand.NewSource(12))
	var won, lost, later, left [3]int
	for range 1500 {
		p := player{randomCode(rnd, 1+rnd.Intn(6)), map[string]int{}}
		for range 20 {
			heaps := make([]int, rnd.Intn(4))
			for i := range heaps {
				heaps[i] = rnd.Intn(9)
			}
			want, wins := p.firstMove(heaps)
			is, m, e := nim.Win(p.code, heaps)
			if is != wins || !sameMove(m, want) || e != api.OK {
				t.Fatal(p.code, heaps, is, m, e, "not", wins, want)
			}
			switch {
			case !wins:
				lost[max(0, len(heaps)-1)]++
			default:
				won[len(heaps)-1]++
				left[len(m.Left)]++
				later[m.Heap]++
			}
		}
	}
	for _, n := range slices.Concat(won[:], lost[:], left[:], later[:]) {
		if n < 100 {
			t.Error("too little came up:", won, lost, left, later)
		}
	}
}

// slowLeast is the least number from 0 on that is none of these.
func slowLeast(values []int) int {
	n := 0
	for slices.Contains(values, n) {
		n++
	}
	return n
}

// slowGrundy goes through what may come of each heap as P18 tells it.
func slowGrundy(code string, n int) []int {
	var values []int
	for size := range n + 1 {
		var next []int
		for _, m := range slowMoves(code, []int{size}) {
			sum := 0
			for _, left := range m.Left {
				sum ^= values[left]
			}
			if !slices.Contains(next, sum) {
				next = append(next, sum)
			}
		}
		values = append(values, slowLeast(next))
	}
	return values
}

func TestManyCodes(t *testing.T) {
	for one := range 8 {
		for two := range 8 {
			for three := range 8 {
				digits := strconv.Itoa(one) + strconv.Itoa(two) + strconv.Itoa(three)
				for n := 1; n <= 3; n++ {
					code := "0." + digits[:n]
					if g, e := nim.Grundy(code, 25); e != api.OK || !slices.Equal(g, slowGrundy(code, 25)) {
						t.Fatal(code, g, e)
					}
				}
			}
		}
	}
	rnd := rand.New(rand.NewSource(13))
	for range 60 {
		code, n := randomCode(rnd, 1+rnd.Intn(6)), rnd.Intn(70)
		if g, e := nim.Grundy(code, n); e != api.OK || !slices.Equal(g, slowGrundy(code, n)) {
			t.Fatal(code, n, g, e)
		}
	}
}

// randomGraph has moves from each number to some that come ahead of it in an
// order by chance, so that there is no way back.
func randomGraph(rnd *rand.Rand, numbers, others int) [][]int {
	next, order := make([][]int, numbers), rnd.Perm(numbers)
	for place, i := range order {
		for range rnd.Intn(others + 1) {
			if place > 0 {
				next[i] = append(next[i], order[rnd.Intn(place)])
			}
		}
	}
	return next
}

// slowValues goes round and round, to those of which all others are known.
func slowValues(next [][]int) ([]int, bool) {
	values := slices.Repeat([]int{-1}, len(next))
	for range next {
		for i, others := range next {
			var of []int
			for _, to := range others {
				of = append(of, values[to])
			}
			if !slices.Contains(of, -1) {
				values[i] = slowLeast(of)
			}
		}
	}
	return values, !slices.Contains(values, -1)
}

func TestManyGraphs(t *testing.T) {
	rnd := rand.New(rand.NewSource(14))
	plain, rings := 0, 0
	for range 3000 {
		next := randomGraph(rnd, rnd.Intn(15), 6)
		if len(next) > 0 && rnd.Intn(2) == 0 {
			i := rnd.Intn(len(next))
			next[i] = append(next[i], rnd.Intn(len(next)))
		}
		want, ok := slowValues(next)
		v, e := nim.Values(next)
		if ok {
			plain++
			if e != api.OK || !slices.Equal(v, want) {
				t.Fatal(next, v, e, want)
			}
		} else {
			rings++
			if e != api.ErrCycle || v != nil {
				t.Fatal(next, v, e)
			}
		}
	}
	if plain < 500 || rings < 500 {
		t.Error("too little came up:", plain, rings)
	}
}

// Sums of games are worth what their parts are.
func TestSumsOfGraphs(t *testing.T) {
	rnd := rand.New(rand.NewSource(15))
	for range 300 {
		a, b := randomGraph(rnd, rnd.Intn(30), 9), randomGraph(rnd, rnd.Intn(30), 9)
		ofA, _ := nim.Values(a)
		ofB, _ := nim.Values(b)
		both, e := nim.Both(a, b)
		if e != api.OK || len(both) != len(a)*len(b) {
			t.Fatal(a, b, both, e)
		}
		of, e := nim.Values(both)
		if e != api.OK {
			t.Fatal(a, b, e)
		}
		for i := range a {
			for j := range b {
				if v := of[i*len(b)+j]; v != ofA[i]^ofB[j] {
					t.Fatal(a, b, i, j, v)
				}
			}
		}
	}
}

// Heaps of which no two are left are graphs, and so are two of them.
func TestHeapsAsGraphs(t *testing.T) {
	rnd := rand.New(rand.NewSource(16))
	for range 100 {
		code := []byte(randomCode(rnd, 1+rnd.Intn(6)))
		for i := 2; i < len(code); i++ {
			code[i] &^= 4
		}
		next := make([][]int, 32)
		for n := range next {
			for _, m := range slowMoves(string(code), []int{n}) {
				next[n] = append(next[n], slices.Max(append(m.Left, 0)))
			}
		}
		g, _ := nim.Grundy(string(code), 31)
		if v, e := nim.Values(next); e != api.OK || !slices.Equal(v, g) {
			t.Fatal(string(code), v, e, g)
		}
		both, e := nim.Both(next[:31], next)
		of, f := nim.Values(both)
		if e != api.OK || f != api.OK {
			t.Fatal(string(code), e, f)
		}
		for i, v := range of {
			if won, _, _ := nim.Win(string(code), []int{i / 32, i % 32}); won != (v != 0) {
				t.Fatal(string(code), i/32, i%32, v)
			}
		}
	}
}
