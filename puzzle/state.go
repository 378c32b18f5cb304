package puzzle

// met stands for how many choices are left for a demand that has been met: more
// than there can be.
const met = maxNumber + 1

// state is how far a square has been filled: which choices can not be made any
// more, and how many are left for each demand. What has been made is not gone.
type state struct {
	gone [maxChoices]bool
	left [maxDemands]int8
}

func (s *square) empty() state {
	var t state
	for d := range t.left {
		t.left[d] = int8(s.n)
	}
	return t
}

// given is the state with the numbers of a puzzle, if no two of them are at odds.
func (s *square) given(cells []int) (t state, fit bool) {
	t = s.empty()
	for cell, number := range cells {
		if number == 0 {
			continue
		}
		c := s.choice(cell, number)
		if t.gone[c] {
			return state{}, false
		}
		s.take(&t, c)
	}
	return t, true
}

// take makes a choice that is not gone.
func (s *square) take(t *state, c choice) {
	for _, d := range s.demands[c] {
		for _, other := range s.choicesFor(d) {
			if other != c {
				s.drop(t, other)
			}
		}
	}
	for _, d := range s.demands[c] {
		t.left[d] = met
	}
}

func (s *square) drop(t *state, c choice) {
	if t.gone[c] {
		return
	}
	t.gone[c] = true
	for _, d := range s.demands[c] {
		t.left[d]--
	}
}

// first is the first choice that is left for a demand; there must be one.
func (s *square) first(t *state, d demand) choice {
	i := 0
	for t.gone[s.choices[d][i]] {
		i++
	}
	return s.choices[d][i]
}
