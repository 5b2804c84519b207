package order

import (
	"cmp"
	"container/heap"

	"provost/api"
)

// turn is a place that is ready, and what it is chosen by.
type turn struct {
	priority, place int
}

// turns is what is ready, as a heap: the one that comes next stands first.
type turns []turn

func (t turns) Len() int { return len(t) }

func (t turns) Less(i, j int) bool {
	return cmp.Or(cmp.Compare(t[i].priority, t[j].priority), cmp.Compare(t[i].place, t[j].place)) < 0
}

func (t turns) Swap(i, j int) { t[i], t[j] = t[j], t[i] }

// Push is the heap's way to lay one down at the end.
func (t *turns) Push(x any) { *t = append(*t, x.(turn)) }

// Pop is the heap's way to take the one at the end.
func (t *turns) Pop() any {
	end := len(*t) - 1
	last := (*t)[end]
	*t = (*t)[:end]
	return last
}

// Least is the row of all places in which at each turn the ready one of least priority comes.
func (o *Order) Least(priority []int) ([]int, api.Errno) {
	if len(priority) != o.Len() {
		return nil, api.ErrArg
	}
	ready := &turns{}
	enter := func(s places) {
		for a := range s.All() {
			heap.Push(ready, turn{priority[a], a})
		}
	}
	row := make([]int, 0, o.Len())
	var done places
	enter(of(o.Ready(0)))
	for ready.Len() > 0 {
		a := heap.Pop(ready).(turn).place
		row = append(row, a)
		done = done.Or(only(a))
		// What a was the last one ahead of is ready from here on, and was not till now.
		enter(o.succs[a].And(of(o.Ready(done.Word()))))
	}
	return row, api.OK
}

// Count is how many rows keep the order, at most most.
func (o *Order) Count(most uint64) uint64 {
	c := counter{order: o, most: min(most, api.MaxCount), known: map[uint64]uint64{}}
	return c.from(places{})
}

// counter counts rows' ends by what came ahead of them: many beginnings have the
// same places, and so the same ends.
type counter struct {
	order *Order
	most  uint64
	known map[uint64]uint64
}

// from is in how many ways a row goes on behind these places, at most most.
func (c counter) from(done places) uint64 {
	if done == c.order.all() {
		return min(1, c.most)
	}
	if n, is := c.known[done.Word()]; is {
		return n
	}
	var n uint64
	for a := range of(c.order.Ready(done.Word())).All() {
		n = min(n+c.from(done.Or(only(a))), c.most)
		if n == c.most {
			break
		}
	}
	c.known[done.Word()] = n
	return n
}
