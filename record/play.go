package record

import (
	"slices"

	"parlour/api"
	"parlour/board"
	"parlour/moves"
	"parlour/rules"
)

// Play: P12.
func Play(r api.Rules, l []api.Note) (api.Position, []int, api.Errno) {
	if err := rules.Check(r); err != api.OK {
		return api.Position{}, nil, err
	}
	if err := Check(l); err != api.OK {
		return api.Position{}, nil, err
	}
	// Not turned at all it is a copy: without a move it is what is answered.
	start, _ := board.Turned(r.Start, 0)
	p, wrong := play(r, start, l, nil)
	if wrong != nil {
		return api.Position{}, wrong, api.ErrMove
	}
	return p, nil, api.OK
}

// play makes the moves of all notes of l, to which that way leads, from p; it
// answers the position behind the main line, or the way to the first note
// whose move is none.
func play(r api.Rules, p api.Position, l []api.Note, way []int) (last api.Position, wrong []int) {
	last = p
	for i := range l {
		here := append(slices.Clone(way), i)
		q, err := behind(r, p, l[i].Move)
		if err != api.OK {
			return api.Position{}, here
		}
		if q, wrong = play(r, q, l[i].Next, here); wrong != nil {
			return api.Position{}, wrong
		}
		if i == 0 {
			last = q
		}
	}
	return last, nil
}

func behind(r api.Rules, p api.Position, move string) (api.Position, api.Errno) {
	m, err := moves.Read(r, p, move)
	if err != api.OK {
		return api.Position{}, err
	}
	return moves.Apply(r, p, m)
}
