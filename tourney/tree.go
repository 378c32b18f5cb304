package tourney

// tree is of the spare players: those who might be left over in the stead of its
// root, who has no partner, if others change theirs. They lie in groups (Edmonds:
// blossoms). Whoever of a group is taken away, the rest of it can be paired; its
// base is the one whose partner lies outside, or the root. Who is not spare, but
// has a partner who is, keeps groups apart.
type tree struct {
	*pairing
	root  int
	spare [maxPaired]bool
	turns [maxPaired]turn
	bases [maxPaired]int
	queue []int
}

// turn is how a spare player comes to be left over. If b is none, his partner goes
// to a, who was left over ahead of that; else a and b, both spare, go together, he
// being on the way from one of them to the root. It never changes once it is known,
// so that what it says of others is known ahead of it (Gabow).
type turn struct{ a, b int }

func newTree(p *pairing, root int) *tree {
	t := &tree{pairing: p, root: root}
	for i := range t.bases {
		t.bases[i] = i
	}
	t.reach(root, turn{none, none})
	return t
}

// finds a partner for the root; it may be that others change theirs.
func (t *tree) finds() bool {
	for i := 0; i < len(t.queue); i++ {
		for other := range t.n {
			if t.meets(t.queue[i], other) {
				return true
			}
		}
	}
	return false
}

// meets: if a spare player takes the other one, the root finds a partner. If that
// is not so, it may be that more players are spare.
func (t *tree) meets(player, other int) bool {
	if t.barred[player][other] || t.bases[player] == t.bases[other] {
		return false
	}
	partner := t.partners[other]
	switch {
	case t.spare[other]:
		t.join(player, other)
	case partner == none:
		t.give(player, other)
		t.partners[other] = player
		return true
	case !t.spare[partner]:
		t.reach(partner, turn{player, none})
	}
	return false
}

func (t *tree) reach(player int, how turn) {
	t.spare[player] = true
	t.turns[player] = how
	t.queue = append(t.queue, player)
}

// join makes one group of all those on the ways from two spare players, who can be
// paired, to the first group that both ways come through. Who kept these groups
// apart is spare, too: he can be left over by going round the other way.
func (t *tree) join(a, b int) {
	base := t.meeting(a, b)
	var joined [maxPaired]bool
	for _, end := range [2]int{a, b} {
		for x := t.bases[end]; x != base; x = t.above(x) {
			between := t.partners[x]
			t.reach(between, turn{a, b})
			joined[x], joined[between] = true, true
		}
	}
	for i, x := range t.bases {
		if joined[x] {
			t.bases[i] = base
		}
	}
}

// meeting is the base of the first group that both ways to the root come through.
func (t *tree) meeting(a, b int) int {
	var passed [maxPaired]bool
	for x := t.bases[a]; x != none; x = t.above(x) {
		passed[x] = true
	}
	x := t.bases[b]
	for !passed[x] {
		x = t.above(x)
	}
	return x
}

// above is the base of the next group on the way to the root; none, of its own. The
// turn of a base has no b: who was reached as groups were joined has his partner
// in his own group.
func (t *tree) above(base int) int {
	if base == t.root {
		return none
	}
	return t.bases[t.turns[base].a]
}

// give a spare player another partner; then the one he had needs another one, and
// so on, up to the root or to somebody who has been given one already.
func (t *tree) give(player, partner int) {
	old := t.partners[player]
	t.partners[player] = partner
	if old == none || t.partners[old] != player {
		return
	}
	how := t.turns[player]
	if how.b == none {
		t.partners[old] = how.a
		t.give(how.a, old)
		return
	}
	t.give(how.a, how.b)
	t.give(how.b, how.a)
}

// barrier, where the root finds nobody, is of all who keep groups apart. Each group
// has an odd number of players, who can be paired with one another or with the
// barrier alone; and there is one group more than the barrier has players, for the
// base of each has one of these as his partner, but for the root.
func (t *tree) barrier() []int {
	var l []int
	for i, partner := range t.partners {
		if partner != none && t.spare[partner] && !t.spare[i] {
			l = append(l, i)
		}
	}
	return l
}
