package search

import "sync"

// lead is the best of the moves that workers are through with: of several with
// the same score the one with the least number, whoever was through first.
type lead struct {
	sync.Mutex
	score, number int
}

// bar is what the score of a move must be above to make it the lead. Of a move
// whose number is less than the lead's the same score is enough.
func (l *lead) bar(number int) int {
	l.Lock()
	defer l.Unlock()
	if number < l.number {
		return l.score - 1
	}
	return l.score
}

// offer takes in a score that was searched with a bar: one that is not above
// it is perhaps not just the move's own, but then it is too low for the lead,
// which meanwhile can only have become better.
func (l *lead) offer(score, number int) {
	l.Lock()
	defer l.Unlock()
	if score > l.score || score == l.score && number < l.number {
		l.score, l.number = score, number
	}
}
