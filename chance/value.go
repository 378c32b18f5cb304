package chance

import "parlour/api"

// lift is added to each N, lest there be values below 0: all values grow by as
// much thereby, and which Kid has them stays.
const lift = maxN

// units are what values are counted in, so small that each of a tree is whole:
// one has all its Weights' totals as divisors, and Chance divides by its own,
// which none of the nodes within it has divided by.
type units struct {
	totals []uint32
	one    natural
}

func unitsOf(t api.Tree) units {
	u := units{totals: totals(t), one: natural{1}}
	for _, x := range u.totals {
		u.one = u.one.times(x)
	}
	return u
}

// totals are those of all nodes of Chance.
func totals(t api.Tree) []uint32 {
	var all []uint32
	if t.Kind == api.Chance {
		all = append(all, total(t.Weights))
	}
	for _, kid := range t.Kids {
		all = append(all, totals(kid)...)
	}
	return all
}

func total(weights []int) uint32 {
	var sum uint32
	for _, weight := range weights {
		sum += uint32(weight)
	}
	return sum
}

// value is that of a tree, lifted, and the way to where it comes from.
func (u units) value(t api.Tree) (natural, []int) {
	switch t.Kind {
	case api.Leaf:
		return u.one.times(uint32(t.N + lift)), nil
	case api.Chance:
		return u.mean(t), nil
	}
	return u.best(t)
}

func (u units) mean(t api.Tree) natural {
	var sum natural
	for i, kid := range t.Kids {
		value, _ := u.value(kid)
		sum = sum.plus(value.times(uint32(t.Weights[i])))
	}
	mean, _ := sum.over(total(t.Weights))
	return mean
}

// best is the first of the greatest, or of the least.
func (u units) best(t api.Tree) (best natural, way []int) {
	sign := 1
	if t.Kind == api.Least {
		sign = -1
	}
	for i, kid := range t.Kids {
		value, behind := u.value(kid)
		if i == 0 || value.compare(best)*sign > 0 {
			best, way = value, append([]int{i}, behind...)
		}
	}
	return best, way
}

// text is what a lifted value is without the lift.
func (u units) text(value natural) string {
	nought := u.one.times(lift)
	if value.compare(nought) < 0 {
		return "-" + u.fraction(nought.minus(value))
	}
	return u.fraction(value.minus(nought))
}

// fraction is so many units, in lowest terms: what n has in common with one is
// taken out of it total by total, and behind that n and what is left of the total
// have nothing in common any more.
func (u units) fraction(n natural) string {
	d := natural{1}
	for _, x := range u.totals {
		_, rest := n.over(x)
		common := divisor(x, rest)
		n, _ = n.over(common)
		d = d.times(x / common)
	}
	if d.compare(natural{1}) == 0 {
		return n.text()
	}
	return n.text() + "/" + d.text()
}

// divisor is the greatest one of both.
func divisor(a, b uint32) uint32 {
	for b != 0 {
		a, b = b, a%b
	}
	return a
}
