package match

import "provost/api"

// nobody has a place that no row has.
const nobody = -1

// marks are places that a way does not go to, or not again.
type marks [api.MaxUsers]bool

// matching is rows with places of their own: all rows, or those that entered.
type matching struct {
	rows  []uint64
	place [api.MaxSteps]int
	owner [api.MaxUsers]int
}

// empty is the matching into which no row has entered.
func empty(rows []uint64) *matching {
	m := &matching{rows: rows}
	for u := range m.owner {
		m.owner[u] = nobody
	}
	return m
}

// full is a matching of all rows, any one, if there is one.
func full(rows []uint64) (*matching, bool) {
	if !few(rows) {
		return nil, false
	}
	m := empty(rows)
	for row := range rows {
		if !m.enter(row) {
			return nil, false
		}
	}
	return m, true
}

// enter finds a place for one row more. If there is none now, there is none
// behind other rows' entering either: it need not be asked again.
func (m *matching) enter(row int) bool { return m.way(row, &marks{}) }

// way goes from a row to a place that it may have, from the row that has this one
// to another place, and so on till a place that nobody has: then all rows on it
// move up. If no way leads to such a place, nothing has changed but the marks. A
// place is gone to once: what led nowhere from there leads nowhere again.
func (m *matching) way(row int, marked *marks) bool {
	may := of(m.rows[row])
	for u := may.Low(); u >= 0; u = may.Next(u + 1) {
		if marked[u] {
			continue
		}
		marked[u] = true
		if m.owner[u] == nobody || m.way(m.owner[u], marked) {
			m.owner[u], m.place[row] = row, u
			return true
		}
	}
	return false
}

// move gives a row of a full matching another place, if the matching can stay
// full while the rows with the marked places keep these; else it is as it was.
func (m *matching) move(row, u int, marked marks) bool {
	other, old := m.owner[u], m.place[row]
	if marked[u] || other == row {
		return other == row
	}
	marked[u] = true
	// The row's old place is there for whoever comes by on the way.
	m.owner[old] = nobody
	if other != nobody && !m.way(other, &marked) {
		m.owner[old] = row
		return false
	}
	m.owner[u], m.place[row] = row, u
	return true
}

// settle moves a row of a full matching to the least place that it can have while
// the rows with the settled places keep these. There is one: that which it has.
func (m *matching) settle(row int, settled marks) int {
	for u := range of(m.rows[row]).All() {
		if m.move(row, u, settled) {
			break
		}
	}
	return m.place[row]
}
