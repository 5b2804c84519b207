package desk_test

import (
	"fmt"
	"slices"
	"strconv"
	"strings"
	"testing"

	"provost/api"
	"provost/desk"
	"provost/flow"
	"provost/lex"
	"provost/org"
	"provost/part"
	"provost/roll"
	"provost/rule"
)

// model is a desk as the chapter's words say it: an organisation of chapter 9, the
// flows, and of each instance what has happened to it, out of which all else is read.
// Plans are looked for among all lists of users.
type model struct {
	org    *org.Org
	flows  []api.Flow
	insts  []*story
	memory map[string][]int // first plans, by problems
}

// story is an instance.
type story struct {
	flow   api.Flow
	events []api.Event
}

func newModel() *model { return &model{org: org.New(), memory: map[string][]int{}} }

func (s *story) lay(tick, kind, step, user int) {
	s.events = append(s.events, api.Event{Tick: tick, Kind: kind, Step: step, User: user})
}

// status is told by the last event that is of no step.
func (s *story) status() int {
	now := 0
	for _, e := range s.events {
		switch e.Kind {
		case api.Started, api.GotFree:
			now = api.Running
		case api.GotStuck:
			now = api.Stuck
		case api.WasFinished:
			now = api.Finished
		case api.WasAborted:
			now = api.Aborted
		}
	}
	return now
}

func (s *story) running() bool { return s.status() == api.Running || s.status() == api.Stuck }

// event is what happened of that kind to a step.
func (s *story) event(kind, step int) (api.Event, bool) {
	i := slices.IndexFunc(s.events, func(e api.Event) bool { return e.Kind == kind && e.Step == step })
	if i < 0 {
		return api.Event{User: -1}, false
	}
	return s.events[i], true
}

func (s *story) claimed(step int) bool { return second(s.event(api.WasClaimed, step)) }
func (s *story) done(step int) bool    { return second(s.event(api.WasDone, step)) }

func second[T any](_ T, is bool) bool { return is }

func (s *story) holder(step int) int {
	e, _ := s.event(api.WasClaimed, step)
	return e.User
}

// ready: is all that comes ahead of a step completed?
func (s *story) ready(step int) bool {
	return !slices.ContainsFunc(s.flow.Steps[step].After, func(ahead int) bool { return !s.done(ahead) })
}

func (s *story) names() []string {
	var l []string
	for _, step := range s.flow.Steps {
		l = append(l, step.Name)
	}
	return l
}

func (m *model) problem(s *story) api.Problem {
	p := api.Problem{Users: m.org.Size(), Rules: s.flow.Rules}
	for i, step := range s.flow.Steps {
		p.Who, p.Fixed = append(p.Who, m.org.Who(step.Duty)), append(p.Fixed, s.holder(i))
	}
	return p
}

// first is the first plan, nil if there is none.
func (m *model) first(p api.Problem) []int {
	key := fmt.Sprint(p)
	plan, is := m.memory[key]
	if !is {
		plan = least(p)
		m.memory[key] = plan
	}
	return plan
}

// least is the first of all lists of users that keep all rules: by the lists'
// patterns, then by the blocks' users.
func least(p api.Problem) []int {
	var best, pattern []int
	for list := range lists(p, nil) {
		labels, _ := part.Of(list)
		if !slices.ContainsFunc(p.Rules, func(x api.Rule) bool { return !keeps(x, list) }) &&
			(best == nil || slices.Compare(labels, pattern) < 0 || slices.Equal(labels, pattern) && slices.Compare(list, best) < 0) {
			best, pattern = list, labels
		}
	}
	return best
}

// lists tells each list of users who may do the steps that begins with list.
func lists(p api.Problem, list []int) func(yield func([]int) bool) {
	return func(yield func([]int) bool) {
		step := len(list)
		if step == len(p.Who) {
			yield(list)
			return
		}
		for user := range p.Users {
			if p.Fixed[step] != user && (p.Fixed[step] != -1 || p.Who[step]>>user&1 == 0) {
				continue
			}
			for l := range lists(p, append(slices.Clone(list), user)) {
				if !yield(l) {
					return
				}
			}
		}
	}
}

// keeps: do the labels of the rule's steps stand as the table of chapter 6 asks?
func keeps(x api.Rule, labels []int) bool {
	times := map[int]int{}
	most := 0
	for _, step := range x.Steps {
		times[labels[step]]++
		most = max(most, times[labels[step]])
	}
	return map[int]bool{
		api.Apart: most == 1,
		api.Same:  len(times) == 1,
		api.Most:  most <= x.K,
		api.Few:   len(times) <= x.K,
		api.Many:  len(times) >= x.K,
	}[x.Kind]
}

// spare is the problem without some rules, and with some steps free for all.
func spare(p api.Problem, rules, steps []int) api.Problem {
	q := api.Problem{Users: p.Users, Who: slices.Clone(p.Who), Fixed: slices.Clone(p.Fixed)}
	for i, x := range p.Rules {
		if !slices.Contains(rules, i) {
			q.Rules = append(q.Rules, x)
		}
	}
	for _, step := range steps {
		q.Fixed[step], q.Who[step] = -1, 0
		for user := range p.Users {
			q.Who[step] |= 1 << user
		}
	}
	return q
}

// why is the search of chapter 15, of a problem without a plan.
func (m *model) why(s *story) []string {
	p := m.problem(s)
	var lines []string
	var rules, steps []int
	for i, x := range p.Rules {
		if m.first(spare(p, append(slices.Clone(rules), i), nil)) != nil {
			text, _ := rule.Text(x, s.names())
			lines = append(lines, text)
		} else {
			rules = append(rules, i)
		}
	}
	for i := range p.Who {
		if m.first(spare(p, rules, append(slices.Clone(steps), i))) != nil {
			lines = append(lines, "step "+s.names()[i])
		} else {
			steps = append(steps, i)
		}
	}
	return lines
}

// do is what a call is to be answered. At its end those are marked that turn.
func (m *model) do(c api.Call) api.Reply {
	r := m.made(c)
	for _, s := range m.insts {
		stuck := s.running() && m.first(m.problem(s)) == nil
		if s.running() && stuck != (s.status() == api.Stuck) {
			s.lay(m.org.Now(), map[bool]int{true: api.GotStuck, false: api.GotFree}[stuck], -1, -1)
		}
	}
	if r.Err != api.OK {
		return api.Reply{Err: r.Err}
	}
	return r
}

func (m *model) made(c api.Call) api.Reply {
	switch {
	case c.Op < 1 || c.Op > 22 && c.Op < 30 || c.Op > 40:
		return api.Reply{Err: api.ErrCall}
	case c.Op < api.OpFlow:
		return m.staff(c)
	case c.Op < api.OpClaim:
		return m.begin(c)
	case c.Op <= api.OpAbort:
		return m.goOn(c)
	}
	return m.ask(c)
}

// staff are the calls of the organisation, which tells itself what it refuses.
func (m *model) staff(c api.Call) (r api.Reply) {
	o, a, b := m.org, c.A, c.B
	switch c.Op {
	case api.OpTick:
		r.Err = o.Tick(c.N)
	case api.OpUser:
		r.N, r.Err = o.User(a)
	case api.OpNoUser:
		r.Err = o.NoUser(a)
	case api.OpRole:
		r.N, r.Err = o.Role(a)
	case api.OpNoRole:
		r.Err = o.NoRole(a)
	case api.OpJoin:
		r.Err = o.Join(a, b)
	case api.OpLeave:
		r.Err = o.Leave(a, b)
	case api.OpOver:
		r.Err = o.Over(a, b)
	case api.OpNoOver:
		r.Err = o.NoOver(a, b)
	case api.OpGrant:
		r.Err = o.Grant(a, b)
	case api.OpRevoke:
		r.Err = o.Revoke(a, b)
	case api.OpBar:
		r.Err = o.Bar(a, b)
	case api.OpUnbar:
		r.Err = o.Unbar(a, b)
	case api.OpLend:
		until := -1
		if c.N >= 1 && c.N <= 999999999 {
			until = o.Now() + c.N
		}
		r.Err = o.Lend(a, b, until)
	case api.OpBack:
		r.Err = o.Back(a, b)
	case api.OpRest:
		r.Err = o.Rest(a)
	case api.OpWake:
		r.Err = o.Wake(a)
	}
	return r
}

// flow is the flow of that name.
func (m *model) flow(name string) (api.Flow, bool) {
	i := slices.IndexFunc(m.flows, func(f api.Flow) bool { return f.Name == name })
	if i < 0 {
		return api.Flow{}, false
	}
	return m.flows[i], true
}

func (m *model) begin(c api.Call) api.Reply {
	if c.Op == api.OpFlow {
		f, fault := flow.Parse(c.Text)
		switch {
		case fault.Why != api.OK:
			return api.Reply{Err: fault.Why}
		case second(m.flow(f.Name)):
			return api.Reply{Err: api.ErrTwice}
		case len(m.flows) >= 64:
			return api.Reply{Err: api.ErrTooBig}
		}
		m.flows = append(m.flows, f)
		return api.Reply{N: len(f.Steps)}
	}
	f, is := m.flow(c.A)
	switch {
	case !is:
		return api.Reply{Err: api.ErrFlow}
	case len(m.insts) >= 4096:
		return api.Reply{Err: api.ErrTooBig}
	}
	s := &story{flow: f}
	s.lay(m.org.Now(), api.Started, -1, -1)
	m.insts = append(m.insts, s)
	return api.Reply{N: len(m.insts)}
}

// goOn are the calls of an instance.
func (m *model) goOn(c api.Call) api.Reply {
	switch c.Op {
	case api.OpClaim:
		if why := m.errClaim(c); why != api.OK {
			return api.Reply{Err: why}
		}
		user, _ := m.org.Find(c.A)
		s := m.insts[c.N-1]
		s.lay(m.org.Now(), api.WasClaimed, slices.Index(s.names(), c.B), user)
	case api.OpDone:
		if why := m.errDone(c); why != api.OK {
			return api.Reply{Err: why}
		}
		user, _ := m.org.Number(c.A)
		s := m.insts[c.N-1]
		s.lay(m.org.Now(), api.WasDone, slices.Index(s.names(), c.B), user)
		for step := range s.flow.Steps {
			if !s.done(step) {
				return api.Reply{}
			}
		}
		s.lay(m.org.Now(), api.WasFinished, -1, -1)
	default:
		if c.N < 1 || c.N > len(m.insts) {
			return api.Reply{Err: api.ErrInst}
		}
		if !m.insts[c.N-1].running() {
			return api.Reply{Err: api.ErrEnded}
		}
		m.insts[c.N-1].lay(m.org.Now(), api.WasAborted, -1, -1)
	}
	return api.Reply{}
}

func (m *model) errClaim(c api.Call) api.Errno {
	if c.N < 1 || c.N > len(m.insts) {
		return api.ErrInst
	}
	user, is := m.org.Find(c.A)
	if !is {
		return api.ErrUser
	}
	s := m.insts[c.N-1]
	step := slices.Index(s.names(), c.B)
	switch {
	case step < 0:
		return api.ErrStep
	case !s.running():
		return api.ErrEnded
	case s.claimed(step):
		return api.ErrClaimed
	case !s.ready(step):
		return api.ErrOrder
	case m.org.Who(s.flow.Steps[step].Duty)>>user&1 == 0:
		return api.ErrAuth
	}
	p := m.problem(s)
	p.Fixed[step] = user
	if m.first(p) == nil {
		return api.ErrDeadEnd
	}
	return api.OK
}

func (m *model) errDone(c api.Call) api.Errno {
	if c.N < 1 || c.N > len(m.insts) {
		return api.ErrInst
	}
	user, is := m.org.Number(c.A)
	if !is {
		return api.ErrUser
	}
	s := m.insts[c.N-1]
	step := slices.Index(s.names(), c.B)
	switch {
	case step < 0:
		return api.ErrStep
	case !s.running():
		return api.ErrEnded
	case !s.claimed(step):
		return api.ErrUnclaimed
	case s.done(step):
		return api.ErrDone
	case s.holder(step) != user:
		return api.ErrHolder
	}
	return api.OK
}

func (m *model) ask(c api.Call) api.Reply {
	switch c.Op {
	case api.AskUser:
		return m.askUser(c)
	case api.AskFlow:
		f, is := m.flow(c.A)
		if !is {
			return api.Reply{Err: api.ErrFlow}
		}
		text, _ := flow.Print(f)
		return api.Reply{N: len(f.Steps), Lines: strings.Fields(strings.ReplaceAll(strings.ReplaceAll(text, " ", "_"), "\n", " "))}
	case api.AskOrg:
		return api.Reply{N: m.org.Size(), Lines: strings.Fields(strings.ReplaceAll(strings.ReplaceAll(roll.Print(m.org), " ", "_"), "\n", " "))}
	case api.AskStuck:
		var r api.Reply
		for i, s := range m.insts {
			if s.status() == api.Stuck {
				r.Lines = append(r.Lines, strconv.Itoa(i+1))
			}
		}
		r.N = len(r.Lines)
		return r
	case api.AskNow:
		return api.Reply{N: m.org.Now()}
	}
	if c.N < 1 || c.N > len(m.insts) {
		return api.Reply{Err: api.ErrInst}
	}
	return m.askInst(c, m.insts[c.N-1])
}

func (m *model) askUser(c api.Call) api.Reply {
	user, is := m.org.Find(c.A)
	if !is {
		return api.Reply{Err: api.ErrUser}
	}
	var r api.Reply
	for _, role := range m.org.Held(c.A) {
		r.Lines = append(r.Lines, "role "+role)
	}
	for i, s := range m.insts {
		for step, name := range s.names() {
			if s.running() && s.holder(step) == user && !s.done(step) {
				r.Lines = append(r.Lines, fmt.Sprint("claim ", i+1, " ", name))
				r.N++
			}
		}
	}
	return r
}

// askInst are the calls that ask of an instance that is there.
func (m *model) askInst(c api.Call, s *story) (r api.Reply) {
	switch c.Op {
	case api.AskInst:
		return api.Reply{N: s.status(), Lines: m.steps(s)}
	case api.AskLog:
		for _, e := range s.events {
			r.Lines = append(r.Lines, m.event(s, e))
		}
	case api.AskCan:
		if !second(m.org.Find(c.A)) {
			return api.Reply{Err: api.ErrUser}
		}
		for _, name := range s.names() {
			if m.errClaim(api.Call{A: c.A, B: name, N: c.N}) == api.OK {
				r.Lines = append(r.Lines, name)
			}
		}
	case api.AskWho:
		if !slices.Contains(s.names(), c.B) {
			return api.Reply{Err: api.ErrStep}
		}
		for _, name := range m.org.Users() {
			if m.errClaim(api.Call{A: name, B: c.B, N: c.N}) == api.OK {
				r.Lines = append(r.Lines, name)
			}
		}
	default:
		return m.askPlan(c, s)
	}
	r.N = len(r.Lines)
	return r
}

func (m *model) askPlan(c api.Call, s *story) (r api.Reply) {
	plan := m.first(m.problem(s))
	switch {
	case !s.running():
		return api.Reply{Err: api.ErrEnded}
	case c.Op == api.AskPlan && plan == nil:
		return api.Reply{Err: api.ErrDeadEnd}
	case c.Op == api.AskPlan:
		for step, user := range plan {
			r.Lines = append(r.Lines, s.names()[step]+" "+m.name(user))
		}
	case plan == nil:
		r.Lines = m.why(s)
	}
	r.N = len(r.Lines)
	return r
}

func (m *model) name(user int) string {
	name, _ := m.org.Name(user)
	return name
}

func (m *model) steps(s *story) []string {
	lines := []string{"flow " + s.flow.Name}
	for i, name := range s.names() {
		claim, _ := s.event(api.WasClaimed, i)
		done, _ := s.event(api.WasDone, i)
		switch {
		case s.done(i):
			name += fmt.Sprint(" done ", m.name(claim.User), " ", claim.Tick, " ", done.Tick)
		case s.claimed(i):
			name += fmt.Sprint(" claimed ", m.name(claim.User), " ", claim.Tick)
		default:
			name += " open"
		}
		lines = append(lines, name)
	}
	return lines
}

func (m *model) event(s *story, e api.Event) string {
	word := map[int]string{api.Started: "started", api.WasClaimed: "claim", api.WasDone: "done", api.WasAborted: "aborted", api.GotStuck: "stuck", api.GotFree: "free", api.WasFinished: "finished"}[e.Kind]
	text := fmt.Sprint(e.Tick, " ", word)
	if e.Kind == api.WasClaimed || e.Kind == api.WasDone {
		text += " " + s.names()[e.Step] + " " + m.name(e.User)
	}
	return text
}

// dice draws numbers that look like chance, and are the same in each run.
type dice uint64

func (d *dice) draw(n int) int {
	*d = *d*6364136223846793005 + 1442695040888963407
	return int(*d>>33) % n
}

// one draws one of a list; of an empty one the zero value.
func one[T any](d *dice, l []T) T {
	if len(l) == 0 {
		var zero T
		return zero
	}
	return l[d.draw(len(l))]
}

// schemas are those of drawn scripts.
func schemas() []string {
	return []string{
		pay,
		"flow buy\nstep a\nstep b after a\nstep c after a\nstep d after b, c\napart a, b\nsame c, d\nend\n",
		"flow box\nstep a needs c\nstep b needs a\nstep c needs a\nmost 1 of a, b, c\nend\n",
		"flow few\nstep d needs a\nstep a needs b after b, c\nstep b\nstep c after b\nfew 2 of d, a, b, c\nmany 2 of a, b\nend\n",
		"flow one\nstep a\nend\n",
		"flow odd\nstep a\nstep b needs a\nsame a, b\napart a, b\nend\n",
		"flow all\nstep a\nstep b\nstep c\nstep d\nmany 3 of a, b, c, d\nmost 2 of a, b\napart b, d\nend\n",
		"flow row\nstep a\nstep b needs approve after a\nstep c needs ask after b\napart a, b\napart b, c\nsame a, c\nend\n",
	}
}

// drawn is a call, mostly one that is not refused for a name or a number.
func (d *dice) drawn(m *model) api.Call {
	users, roles, duties := []string{"ann", "bob", "cyd", "dan", "eve"}, []string{"r", "s", "t", "u"}, []string{"a", "b", "c", "d", "ask", "approve"}
	c := api.Call{A: one(d, users)}
	if d.draw(30) == 0 {
		c.A = one(d, []string{"", "zed", "A", "r", "a-very-long-name-that-is-no-name"})
	}
	switch x := d.draw(20); {
	case x < 5:
		c.Op = one(d, []int{2, 2, 3, 6, 6, 6, 7, 12, 13, 16, 17, 17})
		c.B = one(d, roles)
		if c.Op == api.OpBar || c.Op == api.OpUnbar {
			c.B = one(d, duties)
		}
	case x < 8:
		c.Op = one(d, []int{4, 4, 4, 5, 8, 8, 9, 10, 10, 10, 10, 11})
		c.A, c.B = one(d, roles), one(d, roles)
		if c.Op == api.OpGrant || c.Op == api.OpRevoke {
			c.B = one(d, duties)
		}
	case x < 10:
		c.Op = one(d, []int{1, 14, 14, 15, 18, 19, 19, 19})
		c.B, c.N, c.Text = one(d, users), d.draw(7)-1, one(d, schemas())
		if l := m.org.Loans(); c.Op == api.OpBack && len(l) > 0 && d.draw(2) == 0 {
			c.A, c.B = l[0].From, l[0].To
		}
	case x < 16:
		c = d.claim(m, c)
	default:
		c.Op, c.B, c.N = 30+d.draw(11), one(d, duties), d.near(m)
	}
	if (c.Op == api.OpStart || c.Op == api.AskFlow) && d.draw(9) > 0 {
		c.A = one(d, m.flows).Name
	}
	if d.draw(40) == 0 {
		c.B = one(d, []string{"", "zed", "B"})
	}
	return c
}

// near is an instance's number, seldom one that is none.
func (d *dice) near(m *model) int {
	if d.draw(25) == 0 {
		return one(d, []int{0, -1, len(m.insts) + 1, 1 << 62, -1 << 63})
	}
	return 1 + d.draw(len(m.insts)+1)
}

// claim draws a claim, a completion, or seldom the end of an instance; mostly of one
// that is running, and a completion mostly by who claimed the step.
func (d *dice) claim(m *model, c api.Call) api.Call {
	c.Op, c.N = one(d, []int{api.OpClaim, api.OpClaim, api.OpDone}), d.near(m)
	if d.draw(40) == 0 {
		c.Op = api.OpAbort
		return c
	}
	if c.N < 1 || c.N > len(m.insts) {
		return c
	}
	for range 6 {
		if !m.insts[c.N-1].running() && d.draw(9) > 0 {
			c.N = 1 + d.draw(len(m.insts))
		}
	}
	s := m.insts[c.N-1]
	step := d.draw(len(s.flow.Steps))
	c.B = s.names()[step]
	if c.Op == api.OpDone && s.claimed(step) && d.draw(5) > 0 {
		c.A = m.name(s.holder(step))
	}
	return c
}

// beginning are calls by which something can be drawn at all.
func (d *dice) beginning() []api.Call {
	l := []api.Call{of("role r"), of("role s"), of("grant r ask"), of("grant s approve")}
	for _, name := range []string{"a", "b", "c", "d"} {
		l = append(l, api.Call{Op: api.OpGrant, A: one(d, []string{"r", "s"}), B: name})
	}
	for _, name := range []string{"ann", "bob", "cyd"} {
		l = append(l, api.Call{Op: api.OpUser, A: name}, api.Call{Op: api.OpJoin, A: name, B: one(d, []string{"r", "s"})}, api.Call{Op: api.OpJoin, A: name, B: "r"})
	}
	for range 3 {
		text := one(d, schemas())
		f, _ := flow.Parse(text)
		l = append(l, known(text), api.Call{Op: api.OpStart, A: f.Name})
	}
	return l
}

// told is a reply, with blanks in texts of more lines turned as the model turns them.
func told(c api.Call, r api.Reply) string {
	lines := strings.Join(r.Lines, "|")
	if c.Op == api.AskFlow || c.Op == api.AskOrg {
		lines = strings.ReplaceAll(lines, " ", "_")
	}
	return fmt.Sprint(r.Err, " ", r.N, " ", len(r.Lines), " ", lines)
}

// check does a call at a desk and at its model, with Check ahead of it, and holds
// the answers against each other.
func check(t *testing.T, d *desk.Desk, m *model, c api.Call) api.Reply {
	t.Helper()
	why := d.Check(c)
	got, want := d.Do(c), m.do(c)
	if told(c, got) != told(c, want) {
		t.Fatalf("%v: %s, not %s", c, told(c, got), told(c, want))
	}
	if why != got.Err {
		t.Fatalf("%v: Check says %v, Do %v", c, why, got.Err)
	}
	return got
}

// all asks all that a desk tells.
func all(m *model) []api.Call {
	l := []api.Call{of("org"), of("stuck"), of("now")}
	for _, f := range m.flows {
		l = append(l, api.Call{Op: api.AskFlow, A: f.Name})
	}
	for number := range m.org.Size() {
		l = append(l, api.Call{Op: api.AskUser, A: m.name(number)})
	}
	for i, s := range m.insts {
		for _, op := range []int{api.AskInst, api.AskLog, api.AskPlan, api.AskWhy} {
			l = append(l, api.Call{Op: op, N: i + 1})
		}
		for _, name := range s.names() {
			l = append(l, api.Call{Op: api.AskWho, B: name, N: i + 1})
		}
		for _, name := range m.org.Users() {
			l = append(l, api.Call{Op: api.AskCan, A: name, N: i + 1})
		}
	}
	return l
}

// P22.1, P22.2, P22.3: drawn scripts, call by call.
func TestDrawnScripts(t *testing.T) {
	dice := dice(22)
	seen := map[string]int{}
	for range 250 {
		d, m := desk.New(), newModel()
		for _, c := range dice.beginning() {
			check(t, d, m, c)
		}
		for range 300 {
			c := dice.drawn(m)
			seen[fmt.Sprint(c.Op, " ", check(t, d, m, c).Err)]++
		}
		for _, c := range all(m) {
			check(t, d, m, c)
		}
	}
	for _, l := range strings.Split(met, "\n") {
		op, errs, _ := strings.Cut(l, ": ")
		for _, why := range strings.Split(errs, ", ") {
			if seen[op+" "+why] < 5 {
				t.Errorf("%s %s: %d times", op, why, seen[op+" "+why])
			}
		}
	}
}

// met are what each Op is to be answered in drawn scripts.
const met = `1: ok, bad argument
2: ok, bad name, twice
3: ok, no such user
4: ok, twice
5: ok, no such role
6: ok, no such user, no such role, twice
7: ok, no such user, no such role, no such link
8: ok, no such role, twice, cycle
9: ok, no such role, no such link
10: ok, no such role, bad name, twice
11: ok, no such role, no such link
12: ok, no such user, bad name, twice
13: ok, no such user, no such link
14: ok, no such user, bad argument, twice
15: ok, no such user, no such link
16: ok, no such user, twice
17: ok, no such user, no such link
18: ok, twice
19: ok, no such flow
20: ok, no such instance, no such user, no such step, ended, claimed, too early, not authorised, dead end
21: ok, no such instance, no such user, no such step, ended, not claimed, done, not the holder
22: ok, no such instance, ended
30: ok, no such instance
31: ok, no such instance, no such user
32: ok, no such instance, no such step
33: ok, no such instance, ended, dead end
34: ok, no such instance, ended
35: ok, no such instance
36: ok, no such user
37: ok, no such flow
38: ok
39: ok
40: ok`

// What the model is drawn with is what it says it is.
func TestSchemas(t *testing.T) {
	for _, text := range schemas() {
		f, fault := flow.Parse(text)
		if printed, _ := flow.Print(f); fault != (api.Fault{}) || printed != text || !lex.Legal(f.Name) {
			t.Error(text, fault)
		}
	}
}
