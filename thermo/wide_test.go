package thermo

import (
	"math/big"
	"math/rand"
	"testing"
)

func bigOf(w wide) *big.Int {
	x := new(big.Int).Lsh(new(big.Int).SetUint64(w.hi), 64)
	return x.Add(x, new(big.Int).SetUint64(w.lo))
}

func TestWide(t *testing.T) {
	rnd := rand.New(rand.NewSource(24))
	some := func() int64 { return rnd.Int63() >> rnd.Intn(63) }
	for range 20000 {
		a, b, c, d := some(), some(), some(), some()
		w, x := product(a, b), product(c, d)
		p, q := new(big.Int).Mul(big.NewInt(a), big.NewInt(b)), new(big.Int).Mul(big.NewInt(c), big.NewInt(d))
		if bigOf(w).Cmp(p) != 0 || w.text() != p.String() || w.isBelow(x) != (p.Cmp(q) < 0) || w.isEven() != (p.Bit(0) == 0) {
			t.Fatal(a, b, c, d)
		}
		if bigOf(w.half()).Cmp(new(big.Int).Rsh(p, 1)) != 0 {
			t.Fatal(a, b)
		}
		more, less := new(big.Int).Add(p, big.NewInt(c)), new(big.Int).Sub(p, big.NewInt(c))
		if bigOf(w.plus(c)).Cmp(more) != 0 || less.Sign() >= 0 && bigOf(w.plus(-c)).Cmp(less) != 0 {
			t.Fatal(a, b, c)
		}
		if whole, rest := new(big.Int), new(big.Int); c > 0 {
			whole.QuoRem(p, big.NewInt(c), rest)
			if !whole.IsInt64() {
				continue
			}
			if n, m := w.over(c); n != whole.Int64() || m != rest.Int64() {
				t.Fatal(a, b, c)
			}
		}
	}
	for _, x := range []struct {
		wide
		text string
	}{{wide{}, "0"}, {wide{0, 10}, "10"}, {wide{0, 1<<64 - 1}, "18446744073709551615"}, {wide{1, 0}, "18446744073709551616"}, {product(1e18, 1e18), "1000000000000000000000000000000000000"}, {product(1e10, 1e9), "10000000000000000000"}, {product(1e10, 1e9).plus(-1), "9999999999999999999"}, {product(3e10, 1e9).plus(7), "30000000000000000007"}} {
		if x.wide.text() != x.text {
			t.Error(x, x.wide.text())
		}
	}
}
