package thermo

import "parlour/conway"

// unit is what amounts are counted in, 1/2^unit.
type unit int

func (u unit) one() int64 { return 1 << u }

// unitOf is small enough for all corners. Walls stay, rise or fall one to one, so
// that only where two of them meet, at a temperature, there may be half of what
// was enough for the moves: at most once for each position, and for whole numbers
// never. No wall and no temperature goes beyond the greatest whole number n;
// these are more than n of the 60 positions, so that all is at most 2^59 units.
func unitOf(l []conway.Position) unit {
	var u unit
	for _, p := range l {
		if p.D != 1 {
			u++
		}
	}
	return u
}

// amount is so many units, and part/of units, which is less than one.
type amount struct{ units, part, of int64 }

func whole(units int64) amount { return amount{units: units, of: 1} }

func (a amount) turned() amount { return amount{-a.units, -a.part, a.of} }

// text is the amount as a fraction in lowest terms.
func (u unit) text(a amount) string {
	sign := ""
	if a.units < 0 || a.units == 0 && a.part < 0 {
		sign, a = "-", a.turned()
	}
	common := divisor(max(a.part, -a.part), a.of)
	part, of := a.part/common, a.of/common
	// What n and d have in common are twos alone, for of has nothing in common
	// with part any more.
	n, d := product(a.units, of).plus(part), product(of, u.one())
	for n.isEven() && d.isEven() {
		n, d = n.half(), d.half()
	}
	if d == (wide{lo: 1}) {
		return sign + n.text()
	}
	return sign + n.text() + "/" + d.text()
}

// divisor is the greatest one of both.
func divisor(a, b int64) int64 {
	for b != 0 {
		a, b = b, a%b
	}
	return a
}
