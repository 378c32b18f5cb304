package house

// clocks are what is left of either player's time, and up to when time has gone.
type clocks struct {
	left [2]int
	now  int
}

func clocksAt(time int) clocks { return clocks{left: [2]int{time, time}} }

// goOn lets time go, at the cost of that player; it never goes back.
func (c *clocks) goOn(player, at int) {
	if at > c.now {
		c.left[player] -= at - c.now
		c.now = at
	}
}

func (c *clocks) ranOut(player int) bool { return c.left[player] < 0 }
