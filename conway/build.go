package conway

// read is the canonical game of a text.
func (t *tables) read(s string) game { return t.sum(parse(s)) }

// sum adds term by term, and throws if a part on the way is too large.
func (t *tables) sum(terms sum) game {
	all := zero
	for _, x := range terms {
		g := t.checked(t.atom(x.atom))
		if x.minus {
			g = t.negative(g)
		}
		all = t.checked(t.plus(all, g))
	}
	return all
}

func (t *tables) checked(g game) game {
	if t.isLarge(g) {
		panic(tooLarge{-1})
	}
	return g
}

func (t *tables) atom(a atom) game {
	switch a.kind {
	case number:
		return t.number(a.n, a.d)
	case star:
		return t.star(a.n)
	case up:
		return t.enter(sides{{zero}, {t.star(1)}})
	case down:
		return t.enter(sides{{t.star(1)}, {zero}})
	case braces:
		return t.braces(a.moves)
	}
	return t.sum(a.sum)
}

func (t *tables) number(n, d int) game {
	for n%2 == 0 && d > 1 {
		n, d = n/2, d/2
	}
	switch {
	case n == 0:
		return zero
	case d == 1:
		return t.enter(sides{{t.number(n-1, 1)}, nil})
	}
	return t.enter(sides{{t.number(n-1, d)}, {t.number(n+1, d)}})
}

func (t *tables) star(n int) game {
	var s sides
	for k := range n {
		less := t.star(k)
		s[left], s[right] = append(s[left], less), append(s[right], less)
	}
	return t.enter(s)
}

func (t *tables) braces(moves [2][]sum) game {
	var s sides
	for player, l := range moves {
		if len(l) > maxGames {
			panic(tooLarge{-1})
		}
		for _, terms := range l {
			s[player] = append(s[player], t.sum(terms))
		}
	}
	return t.canonical(s)
}

// negative: the players change places, so it is canonical as the game is.
func (t *tables) negative(g game) game {
	if n, known := t.negatives[g]; known {
		return n
	}
	var s sides
	for player, moves := range t.moves[g] {
		for _, to := range moves {
			s[1-player] = append(s[1-player], t.negative(to))
		}
	}
	n := t.enter(s)
	t.negatives[g] = n
	return n
}

func (t *tables) plus(a, b game) game {
	switch zero {
	case a:
		return b
	case b:
		return a
	}
	question := pair{min(a, b), max(a, b)}
	if g, known := t.sums[question]; known {
		return g
	}
	var s sides
	for player := range s {
		for _, to := range t.moves[a][player] {
			s[player] = append(s[player], t.plus(to, b))
		}
		for _, to := range t.moves[b][player] {
			s[player] = append(s[player], t.plus(a, to))
		}
	}
	g := t.canonical(s)
	t.sums[question] = g
	return g
}
