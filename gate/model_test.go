package gate_test

import (
	"fmt"
	"maps"
	"slices"
	"testing"

	"provost/api"
	"provost/gate"
	"provost/part"
	"provost/rule"
	"provost/solve"
)

// u is a list of users or of steps.
type u = []int

// word is the word of bits of some users.
func word(users ...int) uint64 {
	var w uint64
	for _, user := range users {
		w |= 1 << user
	}
	return w
}

// who makes words of lists of users.
func who(lists ...[]int) []uint64 {
	var words []uint64
	for _, users := range lists {
		words = append(words, word(users...))
	}
	return words
}

func r(kind, k int, steps ...int) api.Rule { return api.Rule{Kind: kind, K: k, Steps: steps} }

// open is a problem none of whose steps is fixed.
func open(users int, who []uint64, rules ...api.Rule) api.Problem {
	return api.Problem{Users: users, Who: who, Fixed: slices.Repeat(u{-1}, len(who)), Rules: rules}
}

// fixed is the problem with other steps fixed.
func fixed(p api.Problem, users ...int) api.Problem {
	p.Fixed = users
	return p
}

// forAll is a problem of n steps which all users may do.
func forAll(n, users int, rules ...api.Rule) api.Problem {
	return open(users, slices.Repeat([]uint64{1<<users - 1}, n), rules...)
}

// upTo are the numbers ahead of n.
func upTo(n int) []int {
	var l []int
	for i := range n {
		l = append(l, i)
	}
	return l
}

// first is a way to the first plan of a problem.
type first func(api.Problem) ([]int, bool)

// solved asks the layer below.
func solved(p api.Problem) ([]int, bool) { return solve.New().Least(p) }

// tried is the first plan by the words of solve's chapter: of all lists of users,
// those that keep all rules, by their patterns and then by their blocks' users.
func tried(p api.Problem) ([]int, bool) {
	var plans [][]int
	lists(p, nil, func(l []int) {
		if !slices.ContainsFunc(p.Rules, func(x api.Rule) bool { return !keeps(x, l) }) {
			plans = append(plans, l)
		}
	})
	if len(plans) == 0 {
		return nil, false
	}
	return slices.MinFunc(plans, func(a, b []int) int {
		one, _ := part.Of(a)
		other, _ := part.Of(b)
		if order := slices.Compare(one, other); order != 0 {
			return order
		}
		return slices.Compare(a, b)
	}), true
}

// lists yields each list of users who may do the steps that begins with list.
func lists(p api.Problem, list []int, yield func([]int)) {
	step := len(list)
	if step == len(p.Who) {
		yield(list)
		return
	}
	for user := range p.Users {
		if p.Fixed[step] == user || p.Fixed[step] == -1 && p.Who[step]>>user%2 == 1 {
			lists(p, append(slices.Clone(list), user), yield)
		}
	}
}

// keeps: do the labels of the rule's steps stand as the table of chapter 6 asks?
func keeps(x api.Rule, labels []int) bool {
	times := map[int]int{}
	most := 0
	for _, step := range x.Steps {
		times[labels[step]]++
		most = max(most, times[labels[step]])
	}
	return map[int]bool{
		api.Apart: most == 1,
		api.Same:  len(times) == 1,
		api.Most:  most <= x.K,
		api.Few:   len(times) <= x.K,
		api.Many:  len(times) >= x.K,
	}[x.Kind]
}

// call is a call of a gate.
type call struct {
	what           string
	id, step, user int
	p              api.Problem
}

// answer is what a call is answered, and what it may raise the gauge by.
type answer struct {
	told  string
	err   api.Errno
	bound uint64
}

func told(err api.Errno, what ...any) answer { return answer{told: fmt.Sprint(what...), err: err} }

// do calls a gate; the answer's bound is what its gauge has risen by.
func do(g *gate.Gate, c call) answer {
	was := sum(g.Gauge())
	a := made(g, c)
	a.bound = sum(g.Gauge()) - was
	return a
}

func made(g *gate.Gate, c call) answer {
	switch c.what {
	case "Open":
		is, err := g.Open(c.id, c.p)
		return told(err, is)
	case "Change":
		is, err := g.Change(c.id, c.p.Users, c.p.Who)
		return told(err, is)
	case "Ask":
		is, err := g.Ask(c.id, c.step, c.user)
		return told(err, is)
	case "Try":
		is, err := g.Try(c.id, c.step, c.user)
		return told(err, is)
	case "Can":
		is, err := g.Can(c.id)
		return told(err, is)
	case "Plan":
		plan, err := g.Plan(c.id)
		return told(err, plan)
	case "Problem":
		p, err := g.Problem(c.id)
		return told(err, p)
	case "Close":
		return told(api.OK, g.Close(c.id))
	}
	return told(api.OK, g.IDs())
}

// sum is all work that a gauge tells.
func sum(g api.Gauge) uint64 { return g.Nodes + g.Pairs + g.Edges }

// less: is one of the numbers less than it was?
func less(now, was api.Gauge) bool {
	return now.Nodes < was.Nodes || now.Pairs < was.Pairs || now.Edges < was.Edges
}

// bound is what a call about a problem may raise the gauge by.
func bound(p api.Problem) uint64 {
	n := uint64(len(p.Who))
	bell, _ := part.Bell(int(n))
	return 4 * (n + 1) * (n + 1) * (n + 1) * uint64(p.Users+1) * bell
}

// model is what the chapter's words ask for: it keeps problems and nothing else.
type model struct {
	entries map[int]api.Problem
	first   first
}

func newModel(way first) model { return model{map[int]api.Problem{}, way} }

func (m model) can(p api.Problem) bool {
	_, is := m.first(p)
	return is
}

// do is what a call is to be answered.
func (m model) do(c call) answer {
	p, is := m.entries[c.id]
	switch c.what {
	case "Open":
		return m.open(c, is)
	case "Close":
		delete(m.entries, c.id)
		return told(api.OK, is)
	case "IDs":
		return told(api.OK, slices.Sorted(maps.Keys(m.entries)))
	}
	if !is {
		return zero(c.what, api.ErrInst)
	}
	switch c.what {
	case "Change":
		return m.change(c, p)
	case "Ask", "Try":
		return m.claim(c, p)
	case "Can":
		return answer{fmt.Sprint(m.can(p)), api.OK, bound(p)}
	case "Plan":
		plan, can := m.first(p)
		if !can {
			return answer{"[]", api.ErrDeadEnd, bound(p)}
		}
		return answer{fmt.Sprint(plan), api.OK, bound(p)}
	}
	return told(api.OK, p)
}

// zero is a refusal: all else that is answered is zero.
func zero(what string, err api.Errno) answer {
	switch what {
	case "Plan":
		return told(err, []int{})
	case "Problem":
		return told(err, api.Problem{})
	}
	return told(err, false)
}

func (m model) open(c call, is bool) answer {
	if is {
		return told(api.ErrTwice, false)
	}
	if err := solve.Check(c.p); err != api.OK {
		return told(err, false)
	}
	m.entries[c.id] = c.p
	return answer{fmt.Sprint(m.can(c.p)), api.OK, bound(c.p)}
}

func (m model) change(c call, p api.Problem) answer {
	p.Users, p.Who = c.p.Users, c.p.Who
	if err := solve.Check(p); err != api.OK {
		return told(err, false)
	}
	m.entries[c.id] = p
	return answer{fmt.Sprint(m.can(p)), api.OK, bound(p)}
}

func (m model) claim(c call, p api.Problem) answer {
	if c.step < 0 || c.step >= len(p.Who) || c.user < 0 || c.user >= p.Users {
		return told(api.ErrArg, false)
	}
	if p.Fixed[c.step] != -1 {
		return told(api.ErrClaimed, false)
	}
	q := p
	q.Fixed = slices.Clone(p.Fixed)
	q.Fixed[c.step] = c.user
	may := p.Who[c.step]>>c.user&1 == 1 && m.can(q)
	if may && c.what == "Try" {
		m.entries[c.id] = q
	}
	return answer{fmt.Sprint(may), api.OK, bound(p)}
}

// check does a call at a gate and at its model, and holds the answers, the work and
// all entries against each other.
func check(t *testing.T, g *gate.Gate, m model, c call) answer {
	t.Helper()
	was := g.Gauge()
	got, want := do(g, c), m.do(c)
	if got.told != want.told || got.err != want.err {
		t.Fatalf("%v: %s, %v; not %s, %v", c, got.told, got.err, want.told, want.err)
	}
	if got.bound > want.bound || less(g.Gauge(), was) {
		t.Fatalf("%v: from %v to %v, of %d", c, was, g.Gauge(), want.bound)
	}
	behind := g.Gauge()
	if got, want := picture(g), fmt.Sprint(slices.Sorted(maps.Keys(m.entries)), m.entries); got != want {
		t.Fatalf("behind %v: %s, not %s", c, got, want)
	}
	if g.Gauge() != behind {
		t.Fatalf("to look at the entries was work: from %v to %v", behind, g.Gauge())
	}
	return got
}

// picture is all that a gate keeps, as far as it can be told without work.
func picture(g *gate.Gate) string {
	entries := map[int]api.Problem{}
	for _, id := range g.IDs() {
		entries[id], _ = g.Problem(id)
	}
	return fmt.Sprint(g.IDs(), entries)
}

// dice draws numbers that look like chance, and are the same in each run.
type dice uint64

func (d *dice) draw(n int) int {
	*d = *d*6364136223846793005 + 1442695040888963407
	return int(*d>>33) % n
}

// some are numbers ahead of n, each one there or not.
func (d *dice) some(n int) []int {
	return slices.DeleteFunc(upTo(n), func(int) bool { return d.draw(2) == 0 })
}

// words are users for n steps.
func (d *dice) words(n, users int) []uint64 {
	var l []uint64
	for range n {
		l = append(l, word(d.some(users)...))
	}
	return l
}

// problem is one that Check takes, of n steps and so many rules or fewer; each
// step is fixed once in so many times.
func (d *dice) problem(n, users, rules, seldom int) api.Problem {
	p := open(users, d.words(n, users))
	for step := range n {
		if users > 0 && d.draw(seldom) == 0 {
			p.Fixed[step] = d.draw(users)
		}
	}
	for range rules {
		if x := d.rule(n); rule.Check(n, x) == api.OK {
			p.Rules = append(p.Rules, x)
		}
	}
	return p
}

// rule is one between some of n steps, or none, where there are too few steps.
func (d *dice) rule(n int) api.Rule {
	within, kind, k := d.some(n), 1+d.draw(5), 0
	if kind > api.Same {
		k = 1 + d.draw(len(within)+1)
	} else if len(within) > 3 {
		within = within[:3]
	}
	return r(kind, k, within...)
}

// drawn are problems of a few steps and users.
func (d *dice) drawn(many int) []api.Problem {
	var l []api.Problem
	for i := range many {
		l = append(l, d.problem(i%6, d.draw(6), d.draw(4), 8))
	}
	return l
}

// drawnGreat are problems of many steps, users and rules.
func (d *dice) drawnGreat(many int) []api.Problem {
	var l []api.Problem
	for i := range many {
		l = append(l, d.problem(6+i%7, 3+d.draw(14), d.draw(9), 9))
	}
	return l
}

// wrong are problems that Check does not take.
func wrong() []api.Problem {
	good := forAll(3, 3)
	return []api.Problem{
		forAll(13, 3),
		{Who: make([]uint64, 13)},
		{Users: 65},
		{Users: -1},
		{Users: -1 << 63},
		{Users: 1<<63 - 1},
		forAll(3, 3, slices.Repeat([]api.Rule{r(api.Few, 1, 0)}, 33)...),
		fixed(good),
		fixed(good, -1, -1, -1, -1),
		fixed(good, -1, -2, -1),
		fixed(good, -1, -1, 3),
		open(3, who(u{}, u{1, 3}, u{2})),
		open(0, who(u{0})),
		forAll(3, 3, r(api.Apart, 0, 1, 3)),
		forAll(3, 3, r(0, 0, 0, 1)),
		forAll(3, 3, r(api.Apart, 0, 0, 1), r(api.Most, 0, 0, 1)),
		{Users: 3, Rules: make([]api.Rule, 1)},
	}
}

// ids are some that entries have in drawn scripts.
func ids() []int { return []int{7, -1 << 63, 0, -3, 1<<63 - 1} }

// call is a drawn one, mostly of an entry that the model has, mostly not refused.
func (d *dice) call(m model, problem func() api.Problem) call {
	c := call{what: "Try", id: ids()[d.draw(len(ids()))]}
	p, is := m.entries[c.id]
	if !is && d.draw(3) > 0 || d.draw(30) == 0 {
		c.what, c.p = "Open", problem()
		return c
	}
	if d.draw(25) == 0 {
		c.what = "Close"
		return c
	}
	c.what = []string{"Change", "Ask", "Try", "Can", "Plan", "Problem", "IDs", "Ask", "Try"}[d.draw(9)]
	c.step, c.user = d.draw(len(p.Who)+1), d.draw(p.Users+1)
	if d.draw(20) == 0 {
		c.step, c.user = c.step-d.draw(2), c.user-d.draw(2)
	}
	if c.what == "Change" {
		c.p = d.changed(p)
	}
	return c
}

// changed has other users for a problem's steps: some more, some fewer, or others,
// and now and then such as are refused.
func (d *dice) changed(p api.Problem) api.Problem {
	n := len(p.Who)
	q := api.Problem{Users: p.Users, Who: slices.Clone(p.Who)}
	switch d.draw(6) {
	case 0:
		q.Users = d.draw(8)
		q.Who = d.words(n, q.Users)
	case 1, 2:
		for step, may := range d.words(n, p.Users) {
			q.Who[step] |= may
		}
	case 3, 4:
		for step, may := range d.words(n, p.Users) {
			q.Who[step] &= may | word(d.some(p.Users)...)
		}
	default:
		q.Users, q.Who = p.Users+d.draw(4)-1, d.words(max(0, n+d.draw(3)-1), p.Users)
	}
	return q
}

// P18.1 to P18.5: drawn scripts, call by call.

func TestScriptsOfSmallProblems(t *testing.T) {
	d := dice(18)
	seen := map[string]int{}
	for range 60 {
		g, m := gate.New(), newModel(tried)
		problem := func() api.Problem { return d.problem(d.draw(6), d.draw(6), d.draw(4), 8) }
		for range 200 {
			c := d.call(m, problem)
			a := check(t, g, m, c)
			if c.what != "Problem" && c.what != "Plan" && c.what != "IDs" {
				seen[c.what+" "+a.err.Error()+" "+a.told]++
			} else {
				seen[c.what+" "+a.err.Error()]++
			}
		}
	}
	for _, what := range []string{
		"Open ok true", "Open ok false", "Open twice false", "Close ok true", "Close ok false", "IDs ok",
		"Change ok true", "Change ok false", "Change bad argument false", "Change no such instance false",
		"Ask ok true", "Ask ok false", "Ask bad argument false", "Ask claimed false", "Ask no such instance false",
		"Try ok true", "Try ok false", "Try bad argument false", "Try claimed false", "Try no such instance false",
		"Can ok true", "Can ok false", "Can no such instance false",
		"Plan ok", "Plan dead end", "Plan no such instance", "Problem ok", "Problem no such instance",
	} {
		if seen[what] < 10 {
			t.Errorf("%s: %d times", what, seen[what])
		}
	}
}

func TestScriptsOfGreatProblems(t *testing.T) {
	d := dice(81)
	for range 40 {
		g, m := gate.New(), newModel(solved)
		problem := func() api.Problem { return d.problem(6+d.draw(7), 3+d.draw(14), d.draw(9), 9) }
		for range 150 {
			check(t, g, m, d.call(m, problem))
		}
	}
}
