package proof

import (
	"slices"

	"parlour/api"
	"parlour/moves"
)

// cert shows that the winner wins from a position in which he needs no more
// than so many moves.
func (h *hunt) cert(p api.Position, most int) api.Cert {
	all, next, _ := moves.Next(h.rules, p)
	switch {
	case len(all) == 0:
		return api.Cert{}
	case p.Turn == h.winner:
		n := h.need(p, most)
		i := slices.IndexFunc(next, func(q api.Position) bool { return h.need(q, n-1) < n })
		return api.Cert{Some: true, Move: all[i], Kids: []api.Cert{h.cert(next[i], n-1)}}
	}
	kids := make([]api.Cert, len(next))
	for i, q := range next {
		kids[i] = h.cert(q, most)
	}
	return api.Cert{Kids: kids}
}
