package order

import "iter"

// Ready are the places that may come next.
func (o *Order) Ready(done uint64) uint64 {
	var ready places
	for a := range o.all().Minus(of(done)).All() {
		if o.preds[a].Sub(of(done)) {
			ready = ready.Or(only(a))
		}
	}
	return ready.Word()
}

// Down: is all that comes ahead of what is in it in it?
func (o *Order) Down(s uint64) bool {
	return of(s).Sub(o.all()) && o.ahead(of(s)).Sub(of(s))
}

// Levels are the places by the length of the longest chain to them.
func (o *Order) Levels() [][]int {
	var levels [][]int
	var done places
	// What is ready behind the levels below is ahead of nothing of its own level.
	for done != o.all() {
		level := of(o.Ready(done.Word()))
		levels = append(levels, level.Places())
		done = done.Or(level)
	}
	return levels
}

// Downs tells the sets that are Down.
func (o *Order) Downs() iter.Seq[uint64] {
	return func(yield func(uint64) bool) {
		var s places
		for more := true; more; s, more = o.after(s) {
			if !yield(s.Word()) {
				return
			}
		}
	}
}

// after is the Down set that comes next to one by its word, if there is one. It
// has one place more, what s has above that place, and below it no more than
// these ask for; the lowest place of which that can be makes the least word. So
// no word between is ever tried: there may be 2^63 of them.
func (o *Order) after(s places) (places, bool) {
	for a := range o.all().Minus(s).All() {
		upward := of(^uint64(0) << a)
		if o.preds[a].And(upward).Sub(s) {
			next := s.And(upward).Or(only(a))
			return next.Or(o.ahead(next)), true
		}
	}
	return places{}, false
}

// ahead is all that comes ahead of a place of s.
func (o *Order) ahead(s places) places {
	var ahead places
	for a := range s.All() {
		ahead = ahead.Or(o.preds[a])
	}
	return ahead
}
