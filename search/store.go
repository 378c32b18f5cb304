package search

import "sync"

// span is what is known of a Score: it is from least to most.
type span struct{ least, most int }

// slot keeps what is known of one question; at first of one that is not asked,
// for its position is none.
type slot struct {
	sync.Mutex
	question
	span
}

// store has slots, perhaps none, for questions that share them.
type store []slot

// slotOf is the only one in which the question may be kept; there must be slots.
func (s store) slotOf(q question) *slot {
	return &s[hash(q)%uint64(len(s))]
}

// recall is what is known, be it only what is known of any Score.
func (s store) recall(q question) span {
	if len(s) > 0 {
		x := s.slotOf(q)
		x.Lock()
		defer x.Unlock()
		if x.question == q {
			return x.span
		}
	}
	return span{-(won + q.depth), won + q.depth}
}

// keep: what is known of the same question still holds; of another one it
// gives way, unless more moves are ahead there, for that took longer to find.
func (s store) keep(q question, known span) {
	if len(s) == 0 {
		return
	}
	x := s.slotOf(q)
	x.Lock()
	defer x.Unlock()
	switch {
	case x.question == q:
		x.least, x.most = max(x.least, known.least), min(x.most, known.most)
	case x.depth <= q.depth:
		x.question, x.span = q, known
	}
}

// The numbers of the hash that is named FNV-1a.
const (
	hashStart = 14695981039346656037
	hashPrime = 1099511628211
)

func hash(q question) uint64 {
	h := uint64(hashStart)
	for _, s := range [...]string{q.pos.Cells, q.pos.Hands[0], q.pos.Hands[1]} {
		for i := range len(s) {
			h = (h ^ uint64(s[i])) * hashPrime
		}
		// Hands that are shared out otherwise are not to fall together.
		h *= hashPrime
	}
	h = (h ^ uint64(q.pos.Turn)) * hashPrime
	return (h ^ uint64(q.depth)) * hashPrime
}
