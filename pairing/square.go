package pairing

import (
	"math"

	"lookout/api"
)

// apart is what counts as the cost where a row and a column do not go together: more than any pairing costs, so that no cost outweighs one pair more.
const apart = api.MaxSide*api.MaxCost + 1

// square is a table of costs that is as high as it is broad, and a pairing of all its rows that comes about row by row. What it has beyond the table that was handed in goes with nothing.
type square struct {
	cost [][]int64
	// What each row and each column bears: together never more than their cost, and just as much where they are a pair. Whoever finds such numbers has a least pairing, and the other least ones are made of pairs of which this holds too.
	row, column []int64
	mate        []int // each row's column
	owner       []int // each column's row, -1 while it has none

	order   []int   // the columns, those that a search has reached ahead of the rest
	over    []int64 // by how much each column is dearer than what it and the nearest row that is reached bear
	from    []int   // that row; where a row is moved ahead, the column to which each row would go
	reached []int   // the columns that come free when a row is moved ahead
}

// newSquare fills a table up to a square. No row has a mate yet.
func newSquare(cost [][]int64) *square {
	n := len(cost)
	if n > 0 {
		n = max(n, len(cost[0]))
	}
	costs, places := make([]int64, 3*n), make([]int, 5*n)
	s := &square{
		cost: make([][]int64, n), row: costs[:n:n], column: costs[n : 2*n : 2*n], over: costs[2*n : 3*n : 3*n],
		mate: places[:n:n], owner: places[n : 2*n : 2*n], order: places[2*n : 3*n : 3*n],
		from: places[3*n : 4*n : 4*n], reached: places[4*n : 5*n : 5*n],
	}
	for i := range n {
		s.cost[i] = make([]int64, n)
		s.mate[i], s.owner[i], s.order[i] = -1, -1, i
		for j := range n {
			s.cost[i][j] = apart
			if i < len(cost) && j < len(cost[i]) && cost[i][j] >= 0 {
				s.cost[i][j] = cost[i][j]
			}
		}
	}
	return s
}

// pair gives row first a mate. The rows that have one keep one, but maybe another, so that all these rows cost the least.
func (s *square) pair(first int) {
	for j := range s.over {
		s.over[j] = math.MaxInt64
	}
	n, row := len(s.order), first
	for done := 0; ; done++ {
		reached, rest := s.order[:done:done], s.order[done:n:n]
		s.nearest(row, rest)
		s.bear(first, reached, rest)
		row = s.owner[rest[0]]
		if row < 0 {
			s.hand(first, rest[0])
			return
		}
	}
}

// nearest brings that column of rest to its front that is nearest to the rows that are reached, now that row is one of them. Of equally near ones it takes one without an owner, as that ends the search.
func (s *square) nearest(row int, rest []int) {
	for k, j := range rest {
		if over := s.cost[row][j] - s.row[row] - s.column[j]; over < s.over[j] {
			s.over[j], s.from[j] = over, row
		}
		front := rest[0]
		if s.over[j] < s.over[front] || s.over[j] == s.over[front] && s.owner[j] < s.owner[front] {
			rest[0], rest[k] = j, front
		}
	}
}

// bear has the rows that are reached bear more, and their columns less, until the first of rest costs what is borne.
func (s *square) bear(first int, reached, rest []int) {
	more := s.over[rest[0]]
	s.row[first] += more
	for _, j := range reached {
		s.row[s.owner[j]] += more
		s.column[j] -= more
	}
	for _, j := range rest {
		s.over[j] -= more
	}
}

// hand gives column j to the row that reached it, the column that this row gives up to the row that reached that one, and so on, back to row first.
func (s *square) hand(first, j int) {
	for row := -1; row != first; {
		row = s.from[j]
		s.owner[j] = row
		s.mate[row], j = j, s.mate[row]
	}
}

// told is the row's mate, as the answer tells it.
func (s *square) told(row int) int {
	if s.cost[row][s.mate[row]] == apart {
		return -1
	}
	return s.mate[row]
}
