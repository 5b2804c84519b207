package solve

import (
	"math/bits"
	"slices"

	"provost/api"
	"provost/match"
	"provost/rule"
)

// look is asked of beginnings of patterns, in the order of a search: whether
// there can still be a plan behind them.
type look struct {
	users int
	may   []uint64
	// rules has for each step those that it stands in: by its block no others
	// can come to be broken.
	rules [][]api.Rule
	// levels has for each number of steps the blocks of the beginning of that
	// length that was kept last: a search asks of a beginning while those that
	// it begins with are still these.
	levels [api.MaxSteps + 1]level
	work   *api.Gauge
}

// level is the blocks of a beginning: who may do all steps of each.
type level struct {
	who    [api.MaxSteps]uint64
	blocks int
}

func newLook(p api.Problem, work *api.Gauge) *look {
	l := &look{users: p.Users, work: work}
	for step := range p.Who {
		l.may = append(l.may, may(p, step))
		l.rules = append(l.rules, rulesOf(p, step))
	}
	return l
}

// rulesOf are the rules that a step stands in.
func rulesOf(p api.Problem, step int) []api.Rule {
	var found []api.Rule
	for _, r := range p.Rules {
		if slices.Contains(r.Steps, step) {
			found = append(found, r)
		}
	}
	return found
}

// keep: can the rules still be kept behind a beginning, and its blocks have users
// of their own? Blocks only get more, and who may do them fewer.
func (l *look) keep(beginning []int) bool {
	l.work.Nodes++
	return l.early(beginning) && l.fits(beginning)
}

// early: can all rules that the last step stands in still be kept?
func (l *look) early(beginning []int) bool {
	for _, r := range l.rules[len(beginning)-1] {
		if !rule.Early(r, len(l.may), beginning) {
			return false
		}
	}
	return true
}

// fits: is there a user of its own for each block?
func (l *look) fits(beginning []int) bool {
	last := len(beginning) - 1
	now := l.levels[last].with(beginning[last], l.may[last])
	l.work.Pairs += uint64(l.users)
	l.levels[last+1] = now
	rows := now.rows()
	l.work.Edges += edges(rows, len(rows))
	return match.Size(rows) == len(rows)
}

// with is the level behind one step more, which is in that block.
func (v level) with(block int, may uint64) level {
	if block == v.blocks {
		v.who[block] = may
		v.blocks++
	} else {
		v.who[block] &= may
	}
	return v
}

// rows are the blocks as match asks for them.
func (v *level) rows() []uint64 { return v.who[:v.blocks] }

// edges is how many edges that many ways through a matching of the rows can go
// along: each way goes along each edge once. How many they were match does not tell.
func edges(rows []uint64, ways int) uint64 {
	all := 0
	for _, row := range rows {
		all += bits.OnesCount64(row)
	}
	return uint64(all * ways)
}
