package agenda

import "cmp"

// entry is an id and its time. Its turn is how many were set when it was, and its
// place is where it stands in the heap; this alone changes.
type entry struct {
	id, at, turn, place int
}

// compare is below 0 where x comes ahead of y.
func compare(x, y *entry) int {
	return cmp.Or(cmp.Compare(x.at, y.at), cmp.Compare(x.turn, y.turn))
}

// queue is the entries as a heap: the one that comes first stands first.
type queue []*entry

func (q queue) Len() int { return len(q) }

func (q queue) Less(i, j int) bool { return compare(q[i], q[j]) < 0 }

func (q queue) Swap(i, j int) {
	q[i], q[j] = q[j], q[i]
	q[i].place, q[j].place = i, j
}

// Push is the heap's way to lay one down at the end.
func (q *queue) Push(x any) {
	e := x.(*entry)
	e.place = len(*q)
	*q = append(*q, e)
}

// Pop is the heap's way to take the one at the end.
func (q *queue) Pop() any {
	end := len(*q) - 1
	last := (*q)[end]
	// The spare room would keep what has gone.
	(*q)[end] = nil
	*q = (*q)[:end]
	return last
}
