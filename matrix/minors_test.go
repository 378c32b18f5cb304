package matrix

import (
	"math/big"
	"math/rand"
	"testing"
)

// determinant is worked out with numbers of any size, along the last column.
func determinant(a [][]int, rows, columns []int) *big.Int {
	if len(rows) == 0 {
		return big.NewInt(1)
	}
	sum, last := new(big.Int), len(rows)-1
	for k, i := range rows {
		others := append(append([]int{}, rows[:k]...), rows[k+1:]...)
		x := determinant(a, others, columns[:last])
		x.Mul(x, big.NewInt(int64(a[i][columns[last]])))
		if (k+last)%2 == 1 {
			x.Neg(x)
		}
		sum.Add(sum, x)
	}
	return sum
}

func listed(s set) []int {
	var all []int
	for i := range s.members() {
		all = append(all, i)
	}
	return all
}

func TestMinors(t *testing.T) {
	rnd := rand.New(rand.NewSource(36))
	for round := range 40 {
		a := make([][]int, 1+rnd.Intn(6))
		columns := 1 + rnd.Intn(6)
		for i := range a {
			for range columns {
				n := rnd.Intn(201) - 100
				if round%2 == 0 {
					n = []int{-100, 100}[rnd.Intn(2)]
				}
				a[i] = append(a[i], n)
			}
		}
		m, count := minorsOf(a), 0
		for r, c := range parts(a) {
			count++
			if want := determinant(a, listed(r), listed(c)); want.Cmp(big.NewInt(m[r][c])) != 0 {
				t.Fatal(a, listed(r), listed(c), m[r][c], "not", want)
			}
		}
		// As many square parts as there are ways to take len(a) of all lines, but
		// for the one without any.
		if want := new(big.Int).Binomial(int64(len(a)+columns), int64(columns)); want.Cmp(big.NewInt(int64(count+1))) != 0 {
			t.Fatal(len(a), columns, count, "not", want)
		}
	}
}
