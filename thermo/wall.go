package thermo

import "slices"

// knot of a wall: how much it is at a t, both in units.
type knot struct{ t, v int64 }

// wall has its first knot at 0. From knot to knot it stays, or falls by as much
// as t grows; behind the last one it stays.
type wall []knot

func (w wall) at(t int64) int64 {
	i := len(w) - 1
	for w[i].t > t {
		i--
	}
	if i+1 < len(w) && w[i+1].v < w[i].v {
		return w[i].v - (t - w[i].t)
	}
	return w[i].v
}

// between is how much it is at t and part/of units.
func (w wall) between(t, part, of int64) amount {
	v := w.at(t)
	return amount{v, (w.at(t+1) - v) * part, of}
}

// with is a wall with one more knot, behind the others; one that is no corner
// any more is left out.
func (w wall) with(k knot) wall {
	n := len(w)
	if n >= 2 && (w[n-2].v == w[n-1].v) == (w[n-1].v == k.v) {
		w = w[:n-1]
	}
	return append(w, k)
}

// lowest is at each t the least of some walls. Between two knots, of whichever
// of them, one that falls may come below those that stay.
func lowest(walls []wall) wall {
	var low wall
	for i, t := range times(walls) {
		k := knot{t, walls[0].at(t)}
		for _, w := range walls {
			k.v = min(k.v, w.at(t))
		}
		if i > 0 {
			last := low[len(low)-1]
			corner := knot{t - (last.v - k.v), last.v}
			if last.t < corner.t && corner.t < t {
				low = low.with(corner)
			}
		}
		low = low.with(k)
	}
	return low
}

// met is the wall of a player whose moves the other one answers with w: as it is
// worth the other way round, less t; from the temperature on it stays.
func (w wall) met(temperature int64) wall {
	var own wall
	for _, k := range w {
		if k.t < temperature {
			own = own.with(knot{k.t, -k.v - k.t})
		}
	}
	return own.with(knot{temperature, -w.at(temperature) - temperature})
}

// times are those of all knots, rising, each once.
func times(walls []wall) []int64 {
	var all []int64
	for _, w := range walls {
		for _, k := range w {
			all = append(all, k.t)
		}
	}
	slices.Sort(all)
	return slices.Compact(all)
}
