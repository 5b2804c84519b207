package desk

import (
	"slices"

	"provost/api"
)

// lookAnew brings the problems of all instances that are running to where the
// organisation is now, and marks those that turn.
func (d *Desk) lookAnew() {
	rights, users := d.rights(), d.org.Size()
	for i, in := range d.insts {
		if !in.running() {
			continue
		}
		who := rights(in.flow)
		if in.users == users && slices.Equal(in.who, who) {
			continue
		}
		in.users, in.who = users, who
		can, _ := d.gate.Change(i+1, users, who)
		in.run.Mark(!can, d.org.Now())
	}
}

// rights tells of flows who may do each step now. The organisation is asked once of
// each duty, since many instances have the same.
func (d *Desk) rights() func(f api.Flow) []uint64 {
	asked := map[string]uint64{}
	return func(f api.Flow) []uint64 {
		var words []uint64
		for _, s := range f.Steps {
			who, is := asked[s.Duty]
			if !is {
				who = d.org.Who(s.Duty)
				asked[s.Duty] = who
			}
			words = append(words, who)
		}
		return words
	}
}
