package chance

import (
	"math/big"
	"math/rand"
	"testing"
)

// known is a natural by the library's own numbers.
func known(a natural) *big.Int {
	n := new(big.Int)
	for i := len(a) - 1; i >= 0; i-- {
		n.Lsh(n, 32).Or(n, big.NewInt(int64(a[i])))
	}
	return n
}

// anyNatural has many parts that are all noughts or all ones.
func anyNatural(rnd *rand.Rand) natural {
	a := make(natural, rnd.Intn(9))
	for i := range a {
		a[i] = anyPart(rnd)
	}
	return trimmed(a)
}

func anyPart(rnd *rand.Rand) uint32 {
	return []uint32{0, 1, 1<<32 - 1, 1 << 31, 999_999_999, 1_000_000_000, rnd.Uint32(), uint32(rnd.Intn(2001))}[rnd.Intn(8)]
}

func is(t *testing.T, what string, got natural, want *big.Int) {
	t.Helper()
	if len(got) > 0 && got[len(got)-1] == 0 {
		t.Fatal(what, got, "has a nought at the end")
	}
	if known(got).Cmp(want) != 0 {
		t.Fatal(what, got, "is not", want)
	}
	if s := got.text(); s != want.String() {
		t.Fatal(what, s, "is not", want)
	}
}

func TestNaturals(t *testing.T) {
	rnd := rand.New(rand.NewSource(11))
	for range 50000 {
		a, b, x := anyNatural(rnd), anyNatural(rnd), anyPart(rnd)
		if rnd.Intn(4) == 0 {
			b = append(natural{}, a...)
		}
		n, m, by := known(a), known(b), big.NewInt(int64(x))
		is(t, "a", a, n)
		is(t, "times", a.times(x), new(big.Int).Mul(n, by))
		is(t, "plus", a.plus(b), new(big.Int).Add(n, m))
		if a.compare(b) != n.Cmp(m) {
			t.Fatal(a, b, a.compare(b))
		}
		if n.Cmp(m) >= 0 {
			is(t, "minus", a.minus(b), new(big.Int).Sub(n, m))
		}
		if x > 0 {
			q, rest := a.over(x)
			want, left := new(big.Int).QuoRem(n, by, new(big.Int))
			is(t, "over", q, want)
			if left.Cmp(big.NewInt(int64(rest))) != 0 {
				t.Fatal(a, x, rest)
			}
		}
		if known(a).Cmp(n) != 0 || known(b).Cmp(m) != 0 {
			t.Fatal("changed", a, b)
		}
	}
}
