package moves

import (
	"parlour/api"
	"parlour/rules"
)

const (
	maxDepth = 6
	maxCount = 100000
)

// Count: P10.
func Count(r api.Rules, p api.Position, depth int) (int, api.Errno) {
	if err := rules.CheckPosition(r, p); err != api.OK {
		return 0, err
	}
	if depth < 0 || depth > maxDepth {
		return 0, api.ErrRange
	}
	// Many ways lead to one position: what comes behind it is looked at once.
	ways, all := map[api.Position]int{p: 1}, 1
	for range depth {
		ways, all = further(r, ways)
		if all > maxCount {
			return 0, api.ErrLarge
		}
	}
	return all, api.OK
}

// further is how many ways lead to each position one move on, and to all of
// them. It ends as soon as they are too many, and then they are not all.
func further(r api.Rules, ways map[api.Position]int) (map[api.Position]int, int) {
	next, all := map[api.Position]int{}, 0
	for p, n := range ways {
		l := list(r, p)
		all += n * len(l)
		if all > maxCount {
			return nil, all
		}
		for _, m := range l {
			next[Behind(r, p, m)] += n
		}
	}
	return next, all
}
