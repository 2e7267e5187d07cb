package pairing

// ahead gives row the least column that it can have in a pairing of the least cost in which the rows ahead of it have what is told of them.
func (s *square) ahead(row int) {
	held := s.mate[row]
	first := s.wish(row, 0)
	if first < 0 || first == held {
		return
	}
	s.search(row, first)
	for j := first; j >= 0 && j != held; j = s.wish(row, j+1) {
		if s.from[s.owner[j]] >= 0 {
			s.move(row, j)
			return
		}
	}
}

// wish is the least column from the place at on that may go with row, and in a least pairing; -1, if there is none.
func (s *square) wish(row, at int) int {
	for j := at; j < len(s.cost); j++ {
		if s.cost[row][j] != apart && s.borne(row, j) {
			return j
		}
	}
	return -1
}

// borne tells whether a row and a column may be a pair of a least pairing.
func (s *square) borne(row, j int) bool { return s.cost[row][j] == s.row[row]+s.column[j] }

// may tells whether row r can go to column j for the sake of row: where it stands ahead of row, it must have gone without, and go on so.
func (s *square) may(r, j, row int) bool {
	return s.borne(r, j) && (r > row || s.cost[r][j] == apart && s.told(r) < 0)
}

// search finds which rows could go to another column if row gave up its own: to the one that is told in from, -1 where they could not. It ends early where the column first comes free.
func (s *square) search(row, first int) {
	for r := range s.from {
		s.from[r] = -1
	}
	n := len(s.cost)
	reached := append(s.reached[:0:n], s.mate[row])
search:
	for k := 0; k < len(reached); k++ {
		for r := range n {
			if r == row || s.from[r] >= 0 || !s.may(r, reached[k], row) {
				continue
			}
			s.from[r] = reached[k]
			if s.mate[r] == first {
				break search
			}
			reached = append(reached, s.mate[r])
		}
	}
}

// move gives row the column j, the row that had it the one that was found for that row, and so on, until the column that row gave up is taken.
func (s *square) move(row, j int) {
	held := s.mate[row]
	for {
		next := s.owner[j]
		s.mate[row], s.owner[j] = j, row
		if j == held {
			return
		}
		row, j = next, s.from[next]
	}
}
