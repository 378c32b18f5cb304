package tourney

// none stands for a player where there is none.
const none = -1

// pairing is of n players: who may not meet, and whose partner is who.
type pairing struct {
	n        int
	barred   [maxPaired][maxPaired]bool
	partners [maxPaired]int
}

func newPairing(n int, barred [][2]int) *pairing {
	p := &pairing{n: n}
	for _, two := range barred {
		p.barred[two[0]][two[1]] = true
		p.barred[two[1]][two[0]] = true
	}
	for i := range p.partners {
		p.partners[i] = none
	}
	return p
}

func (p *pairing) pairs() [][2]int {
	l := make([][2]int, 0, p.n/2)
	for i := range p.n {
		if i < p.partners[i] {
			l = append(l, [2]int{i, p.partners[i]})
		}
	}
	return l
}
