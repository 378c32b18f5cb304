package conway

import (
	"cmp"
	"slices"
	"strings"
)

// mostAnswered is how long a text may be for anything to be promised of it. Few
// positions can be enough for a longer one, which there may be no memory for.
const mostAnswered = 1<<31 - 1

// writer writes one game. The texts of its positions may be long, and are not
// made for themselves: each is written into the whole once, and copied from
// there if it is needed again.
type writer struct {
	*namer
	strings.Builder
	known map[game]*wording
}

func newWriter(t *tables) *writer {
	return &writer{namer: newNamer(t), known: map[game]*wording{}}
}

// wording is how a game is written: by its name, or in braces. size is how many
// bytes that takes; if it is written, it stands at start.
type wording struct {
	nature
	name    string
	items   []item
	size    int
	start   int
	written bool
}

// item of what stands in braces: a game, or none where a player can not move;
// and the byte behind it.
type item struct {
	to     game
	none   bool
	behind byte
}

func (t *tables) text(g game) string {
	w := newWriter(t)
	w.Grow(w.wording(g).size)
	w.write(g)
	return w.String()
}

func (w *writer) wording(g game) *wording {
	if x := w.known[g]; x != nil {
		return x
	}
	x := &wording{nature: w.nature(g)}
	x.name = nameOf(x.nature)
	x.size = len(x.name)
	if x.kind == braces {
		x.items = append(w.items(w.moves[g][left], '|'), w.items(w.moves[g][right], '}')...)
		x.size = w.sizeOf(x.items)
	}
	w.known[g] = x
	return x
}

func (w *writer) items(moves []game, last byte) []item {
	if len(moves) == 0 {
		return []item{{none: true, behind: last}}
	}
	var l []item
	for _, to := range slices.SortedFunc(slices.Values(moves), w.compare) {
		l = append(l, item{to: to, behind: ','})
	}
	l[len(l)-1].behind = last
	return l
}

func (w *writer) sizeOf(items []item) int {
	size := len("{")
	for _, x := range items {
		size++
		if !x.none {
			size += w.wording(x.to).size
		}
	}
	if size > mostAnswered {
		panic(tooLarge{-1})
	}
	return size
}

// compare: texts are ordered by their length, then by their bytes.
func (w *writer) compare(a, b game) int {
	if c := cmp.Compare(w.wording(a).size, w.wording(b).size); c != 0 {
		return c
	}
	return w.byBytes(item{to: a}, item{to: b})
}

// byBytes compares texts, and the bytes behind them, without making them.
func (w *writer) byBytes(a, b item) int {
	if c := cmp.Compare(w.opening(a), w.opening(b)); c != 0 {
		return c
	}
	if a.to == b.to {
		return cmp.Compare(a.behind, b.behind)
	}
	// Both are in braces. They differ at an item that both have: if one has its
	// last there and the other has not, the bytes behind it differ.
	x, y := w.wording(a.to).items, w.wording(b.to).items
	for i := range min(len(x), len(y)) {
		if c := w.byBytes(x[i], y[i]); c != 0 {
			return c
		}
	}
	return 0
}

// opening is enough of an item to tell it from others, but for two that are in
// braces.
func (w *writer) opening(x item) string {
	if x.none {
		return string(x.behind)
	}
	if g := w.wording(x.to); g.kind != braces {
		return g.name + string(x.behind)
	}
	return "{"
}

func (w *writer) write(g game) {
	x := w.wording(g)
	switch {
	case x.kind != braces:
		w.WriteString(x.name)
	case x.written:
		w.WriteString(w.String()[x.start : x.start+x.size])
	default:
		x.start, x.written = w.Len(), true
		w.WriteByte('{')
		for _, i := range x.items {
			if !i.none {
				w.write(i.to)
			}
			w.WriteByte(i.behind)
		}
	}
}
