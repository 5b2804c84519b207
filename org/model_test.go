package org_test

import (
	"cmp"
	"math"
	"slices"
	"strconv"
	"strings"
	"testing"

	"provost/api"
	"provost/org"
)

// organisation is what an Org and its model can both do.
type organisation interface {
	User(name string) (int, api.Errno)
	NoUser(name string) api.Errno
	Role(name string) (int, api.Errno)
	NoRole(name string) api.Errno
	Join(user, role string) api.Errno
	Leave(user, role string) api.Errno
	Over(senior, junior string) api.Errno
	NoOver(senior, junior string) api.Errno
	Grant(role, duty string) api.Errno
	Revoke(role, duty string) api.Errno
	Bar(user, duty string) api.Errno
	Unbar(user, duty string) api.Errno
	Lend(from, to string, until int) api.Errno
	Back(from, to string) api.Errno
	Rest(user string) api.Errno
	Wake(user string) api.Errno
	Tick(n int) api.Errno
	Now() int
	Epoch() uint64
	Size() int
	Find(user string) (int, bool)
	Number(name string) (int, bool)
	Name(number int) (string, bool)
	Users() []string
	Roles() []string
	Held(user string) []string
	Joined(user string) []string
	Juniors(role string) []string
	Duties(role string) []string
	Bars(user string) []string
	Rests(user string) bool
	Loans() []api.Loan
	Can(user, duty string) bool
	Who(duty string) uint64
}

type pair = [2]string

// model is an organisation as the chapter's words say it: plain lists of what
// is there, in the order in which it came, gone through one by one.
type model struct {
	userNames, roleNames       []string // by their numbers
	users, roles, resting      []string
	joins, overs, grants, bars []pair
	loans                      []api.Loan
	past                       int // ticks since the clock began
	epoch                      uint64
}

// ok counts a change, and answers it.
func (m *model) ok() api.Errno {
	m.epoch++
	return api.OK
}

func isName(s string) bool {
	if len(s) < 1 || len(s) > 24 || s[0] < 'a' || s[0] > 'z' {
		return false
	}
	return strings.Trim(s, "abcdefghijklmnopqrstuvwxyz0123456789-") == ""
}

// enter makes a name known in a list, and gives it a number in another one.
func (m *model) enter(name string, names, known *[]string) (int, api.Errno) {
	switch {
	case !isName(name):
		return 0, api.ErrName
	case slices.Contains(*known, name):
		return 0, api.ErrTwice
	case !slices.Contains(*names, name) && len(*names) == 64:
		return 0, api.ErrTooBig
	case !slices.Contains(*names, name):
		*names = append(*names, name)
	}
	*known = append(*known, name)
	return slices.Index(*names, name), m.ok()
}

func without[T comparable](l []T, x T) []T {
	return slices.DeleteFunc(l, func(y T) bool { return x == y })
}

// lay puts a link into a list; cut takes it out.
func (m *model) lay(l *[]pair, a, b string) api.Errno {
	if slices.Contains(*l, pair{a, b}) {
		return api.ErrTwice
	}
	*l = append(*l, pair{a, b})
	return m.ok()
}

func (m *model) cut(l *[]pair, a, b string) api.Errno {
	if !slices.Contains(*l, pair{a, b}) {
		return api.ErrLink
	}
	*l = without(*l, pair{a, b})
	return m.ok()
}

func (m *model) isUser(name string) bool { return slices.Contains(m.users, name) }

func (m *model) isRole(name string) bool { return slices.Contains(m.roles, name) }

func (m *model) User(name string) (int, api.Errno) { return m.enter(name, &m.userNames, &m.users) }

func (m *model) NoUser(name string) api.Errno {
	if !m.isUser(name) {
		return api.ErrUser
	}
	of := func(p pair) bool { return p[0] == name }
	m.joins, m.bars = slices.DeleteFunc(m.joins, of), slices.DeleteFunc(m.bars, of)
	m.loans = slices.DeleteFunc(m.loans, func(l api.Loan) bool { return l.From == name || l.To == name })
	m.users, m.resting = without(m.users, name), without(m.resting, name)
	return m.ok()
}

func (m *model) Role(name string) (int, api.Errno) { return m.enter(name, &m.roleNames, &m.roles) }

func (m *model) NoRole(name string) api.Errno {
	if !m.isRole(name) {
		return api.ErrRole
	}
	m.joins = slices.DeleteFunc(m.joins, func(p pair) bool { return p[1] == name })
	m.grants = slices.DeleteFunc(m.grants, func(p pair) bool { return p[0] == name })
	m.overs = slices.DeleteFunc(m.overs, func(p pair) bool { return p[0] == name || p[1] == name })
	m.roles = without(m.roles, name)
	return m.ok()
}

// both: is the one a known user, and the other one a known role?
func (m *model) both(user, role string) api.Errno {
	switch {
	case !m.isUser(user):
		return api.ErrUser
	case !m.isRole(role):
		return api.ErrRole
	}
	return api.OK
}

func (m *model) Join(user, role string) api.Errno {
	if err := m.both(user, role); err != api.OK {
		return err
	}
	return m.lay(&m.joins, user, role)
}

func (m *model) Leave(user, role string) api.Errno {
	if err := m.both(user, role); err != api.OK {
		return err
	}
	return m.cut(&m.joins, user, role)
}

// below are roles and all that they stand over.
func (m *model) below(roles ...string) []string {
	all := slices.Clone(roles)
	for i := 0; i < len(all); i++ {
		for _, p := range m.overs {
			if p[0] == all[i] && !slices.Contains(all, p[1]) {
				all = append(all, p[1])
			}
		}
	}
	return all
}

func (m *model) Over(senior, junior string) api.Errno {
	switch {
	case !m.isRole(senior) || !m.isRole(junior):
		return api.ErrRole
	case slices.Contains(m.overs, pair{senior, junior}):
		return api.ErrTwice
	case slices.Contains(m.below(junior), senior):
		return api.ErrCycle
	}
	return m.lay(&m.overs, senior, junior)
}

func (m *model) NoOver(senior, junior string) api.Errno {
	if !m.isRole(senior) || !m.isRole(junior) {
		return api.ErrRole
	}
	return m.cut(&m.overs, senior, junior)
}

func (m *model) Grant(role, duty string) api.Errno {
	switch {
	case !m.isRole(role):
		return api.ErrRole
	case !isName(duty):
		return api.ErrName
	}
	return m.lay(&m.grants, role, duty)
}

func (m *model) Revoke(role, duty string) api.Errno {
	if !m.isRole(role) {
		return api.ErrRole
	}
	return m.cut(&m.grants, role, duty)
}

func (m *model) Bar(user, duty string) api.Errno {
	switch {
	case !m.isUser(user):
		return api.ErrUser
	case !isName(duty):
		return api.ErrName
	}
	return m.lay(&m.bars, user, duty)
}

func (m *model) Unbar(user, duty string) api.Errno {
	if !m.isUser(user) {
		return api.ErrUser
	}
	return m.cut(&m.bars, user, duty)
}

// lent is the place of a loan in the list, or -1.
func (m *model) lent(from, to string) int {
	return slices.IndexFunc(m.loans, func(l api.Loan) bool { return l.From == from && l.To == to })
}

func (m *model) Lend(from, to string, until int) api.Errno {
	switch {
	case !m.isUser(from) || !m.isUser(to):
		return api.ErrUser
	case from == to || until <= m.Now() || until > 999999999:
		return api.ErrArg
	case m.lent(from, to) >= 0:
		return api.ErrTwice
	}
	m.loans = append(m.loans, api.Loan{From: from, To: to, Until: until})
	return m.ok()
}

func (m *model) Back(from, to string) api.Errno {
	switch {
	case !m.isUser(from) || !m.isUser(to):
		return api.ErrUser
	case m.lent(from, to) < 0:
		return api.ErrLink
	}
	m.loans = slices.Delete(m.loans, m.lent(from, to), m.lent(from, to)+1)
	return m.ok()
}

func (m *model) Rest(user string) api.Errno {
	switch {
	case !m.isUser(user):
		return api.ErrUser
	case m.Rests(user):
		return api.ErrTwice
	}
	m.resting = append(m.resting, user)
	return m.ok()
}

func (m *model) Wake(user string) api.Errno {
	switch {
	case !m.isUser(user):
		return api.ErrUser
	case !m.Rests(user):
		return api.ErrLink
	}
	m.resting = without(m.resting, user)
	return m.ok()
}

func (m *model) Tick(n int) api.Errno {
	switch {
	case n < 1:
		return api.ErrArg
	case n > 999999999 || m.Now()+n > 999999999:
		return api.ErrClock
	}
	m.past += n
	was := len(m.loans)
	m.loans = slices.DeleteFunc(m.loans, func(l api.Loan) bool { return l.Until <= m.Now() })
	if len(m.loans) < was {
		m.epoch++
	}
	return api.OK
}

func (m *model) Now() int { return 1 + m.past }

func (m *model) Epoch() uint64 { return m.epoch }

func (m *model) Size() int { return len(m.userNames) }

func (m *model) Find(user string) (int, bool) {
	if !m.isUser(user) {
		return 0, false
	}
	return slices.Index(m.userNames, user), true
}

func (m *model) Number(name string) (int, bool) {
	if i := slices.Index(m.userNames, name); i >= 0 {
		return i, true
	}
	return 0, false
}

func (m *model) Name(number int) (string, bool) {
	for i, name := range m.userNames {
		if i == number {
			return name, m.isUser(name)
		}
	}
	return "", false
}

// those are the names that are in a list, by their numbers.
func those(names, l []string) []string {
	var out []string
	for _, name := range names {
		if slices.Contains(l, name) {
			out = append(out, name)
		}
	}
	return out
}

// right are the right ends of the links whose left end this is.
func right(links []pair, left string) []string {
	var out []string
	for _, p := range links {
		if p[0] == left {
			out = append(out, p[1])
		}
	}
	return out
}

func (m *model) Users() []string { return those(m.userNames, m.users) }

func (m *model) Roles() []string { return those(m.roleNames, m.roles) }

func (m *model) Joined(user string) []string { return those(m.roleNames, right(m.joins, user)) }

func (m *model) Juniors(role string) []string { return those(m.roleNames, right(m.overs, role)) }

func (m *model) Duties(role string) []string {
	return slices.Sorted(slices.Values(right(m.grants, role)))
}

func (m *model) Bars(user string) []string { return slices.Sorted(slices.Values(right(m.bars, user))) }

func (m *model) Held(user string) []string {
	roles := m.below(right(m.joins, user)...)
	for _, l := range m.loans {
		if l.To == user {
			roles = append(roles, m.below(right(m.joins, l.From)...)...)
		}
	}
	return those(m.roleNames, roles)
}

func (m *model) Rests(user string) bool { return slices.Contains(m.resting, user) }

func (m *model) Loans() []api.Loan {
	l := slices.Clone(m.loans)
	slices.SortStableFunc(l, func(x, y api.Loan) int { return cmp.Compare(x.Until, y.Until) })
	return l
}

func (m *model) Can(user, duty string) bool {
	return m.isUser(user) && !m.Rests(user) && !slices.Contains(m.bars, pair{user, duty}) && slices.ContainsFunc(m.Held(user), func(role string) bool {
		return slices.Contains(m.grants, pair{role, duty})
	})
}

func (m *model) Who(duty string) uint64 {
	var who uint64
	for i, name := range m.userNames {
		if m.Can(name, duty) {
			who |= 1 << i
		}
	}
	return who
}

// call is one call of a row: its name, and what it is given.
type call struct {
	op, a, b string
	n        int
}

func do(x organisation, c call) (int, api.Errno) {
	switch c.op {
	case "User":
		return x.User(c.a)
	case "Role":
		return x.Role(c.a)
	case "NoUser":
		return 0, x.NoUser(c.a)
	case "NoRole":
		return 0, x.NoRole(c.a)
	case "Join":
		return 0, x.Join(c.a, c.b)
	case "Leave":
		return 0, x.Leave(c.a, c.b)
	case "Over":
		return 0, x.Over(c.a, c.b)
	case "NoOver":
		return 0, x.NoOver(c.a, c.b)
	case "Grant":
		return 0, x.Grant(c.a, c.b)
	case "Revoke":
		return 0, x.Revoke(c.a, c.b)
	case "Bar":
		return 0, x.Bar(c.a, c.b)
	case "Unbar":
		return 0, x.Unbar(c.a, c.b)
	case "Lend":
		return 0, x.Lend(c.a, c.b, c.n)
	case "Back":
		return 0, x.Back(c.a, c.b)
	case "Rest":
		return 0, x.Rest(c.a)
	case "Wake":
		return 0, x.Wake(c.a)
	case "Tick":
		return 0, x.Tick(c.n)
	}
	panic("no call: " + c.op)
}

// of reads a row of calls that are parted by semicolons: "User ann; Lend ann bob 5".
func of(text string) []call {
	var row []call
	for piece := range strings.SplitSeq(text, ";") {
		w := append(strings.Fields(piece), "", "", "")
		c := call{op: w[0], a: w[1], b: w[2]}
		number := w[3]
		if c.op == "Tick" {
			number, c.a = w[1], ""
		}
		c.n, _ = strconv.Atoi(number)
		row = append(row, c)
	}
	return row
}

// made is an organisation behind calls all of which must be answered OK.
func made(t *testing.T, text string) *org.Org {
	t.Helper()
	o := org.New()
	change(t, o, text)
	return o
}

// change makes calls all of which must be answered OK.
func change(t *testing.T, o organisation, text string) {
	t.Helper()
	for _, c := range of(text) {
		if _, err := do(o, c); err != api.OK {
			t.Fatalf("%v: %v", c, err)
		}
	}
}

// refuse makes a call that must be refused so, and must change nothing.
func refuse(t *testing.T, o *org.Org, c call, want api.Errno) {
	t.Helper()
	was := picture(o)
	if n, err := do(o, c); n != 0 || err != want {
		t.Errorf("%v: %d, %v, not %v", c, n, err, want)
	}
	if is := picture(o); is != was {
		t.Errorf("%v was refused, and changed\n%s\nto\n%s", c, was, is)
	}
}

// follow makes a call of both, and holds all that they answer against each other.
func follow(t *testing.T, o *org.Org, m *model, c call) {
	t.Helper()
	gotN, got := do(o, c)
	wantN, want := do(m, c)
	if got != want || gotN != wantN {
		t.Fatalf("%v: %d, %v, not %d, %v", c, gotN, got, wantN, want)
	}
	if is, must := picture(o), picture(m); is != must {
		t.Fatalf("behind %v there is\n%s\nnot\n%s", c, is, must)
	}
}

// pool are the names that rows of calls are made of: first users', then roles',
// then duties'. Some are of two kinds, for a name may be.
func pool() []string {
	return []string{"ann", "bob", "cyd", "dan", "eve", "clerk", "boss", "temp", "ask", "sign", "pay", "a", "a-1", "b"}
}

// picture is all that an organisation tells of the pool's names, of names that
// are none, and of those that are known besides.
func picture(x organisation) string {
	names := append(pool(), "", "A", "nobody")
	for _, known := range [][]string{x.Users(), x.Roles()} {
		names = append(names, known...)
	}
	slices.Sort(names)
	names = slices.Compact(names)
	var b strings.Builder
	say := func(parts ...string) { b.WriteString(strings.Join(parts, " ") + "\n") }
	number := func(n int, ok bool) string { return strconv.Itoa(n) + strconv.FormatBool(ok) }
	list := func(l []string) string { return "[" + strings.Join(l, " ") + "]" }
	say("now", strconv.Itoa(x.Now()), "epoch", strconv.FormatUint(x.Epoch(), 10), "size", strconv.Itoa(x.Size()))
	say("users", list(x.Users()), "roles", list(x.Roles()))
	for _, l := range x.Loans() {
		say("loan", l.From, l.To, strconv.Itoa(l.Until))
	}
	for _, n := range append([]int{-1, -64, 64, 65, 128, 1 << 32, math.MaxInt, math.MinInt}, upTo(x.Size()+1)...) {
		if name, known := x.Name(n); name != "" || known {
			say("number", strconv.Itoa(n), name, strconv.FormatBool(known))
		}
	}
	for _, a := range names {
		say(a, "find", number(x.Find(a)), "number", number(x.Number(a)), "rests", strconv.FormatBool(x.Rests(a)), "who", strconv.FormatUint(x.Who(a), 2))
		say(a, "held", list(x.Held(a)), "joined", list(x.Joined(a)), "juniors", list(x.Juniors(a)), "duties", list(x.Duties(a)), "bars", list(x.Bars(a)))
		for _, d := range names {
			if x.Can(a, d) {
				say(a, "can", d)
			}
		}
	}
	return b.String()
}

// content is what picture tells, less the epoch: that counts on when a change is undone.
func content(x organisation) string {
	text := picture(x)
	return strings.Replace(text, " epoch "+strconv.FormatUint(x.Epoch(), 10)+" ", " ", 1)
}

// upTo are the numbers 0 to n-1.
func upTo(n int) []int {
	var l []int
	for i := range n {
		l = append(l, i)
	}
	return l
}

// wrongNames are texts that are no names.
func wrongNames() []string {
	return []string{"", "A", "Ann", "aNn", "1", "1a", "-", "-a", "a b", " ann", "ann ", "a_b", "a.b", "a,b", "ann\n", "ann\x00", "\x00", "\xff", "é", "añ", "a\u212a", "abcdefghijklmnopqrstuvwxy", strings.Repeat("a", 1000)}
}

// edgeNames are names that are just ones still.
func edgeNames() []string {
	return []string{"a", "z", "a-", "a--", "z9", "a0-", "abcdefghijklmnopqrstuvwx", "z-0123456789-0123456789-"}
}

// draw makes numbers by a short rule.
type draw uint64

func (d *draw) below(n int) int {
	*d = *d*6364136223846793005 + 1442695040888963407
	return int(*d >> 33 % draw(n))
}

func (d *draw) from(l []string) string { return l[d.below(len(l))] }

// kinds are the calls that change something.
func kinds() []string {
	return []string{"User", "NoUser", "Role", "NoRole", "Join", "Leave", "Over", "NoOver", "Grant", "Revoke", "Bar", "Unbar", "Lend", "Back", "Rest", "Wake", "Tick"}
}

// rowOfCalls is a long row over a few names, one kind of calls in this turn so
// often as the weights say; each has names of all sorts at times.
func rowOfCalls(seed, length int, weights map[string]int) []call {
	d := draw(seed)
	var bag []string
	for _, k := range kinds() {
		for range max(1, weights[k]) {
			bag = append(bag, k)
		}
	}
	users, roles, duties := pool()[:5], pool()[3:8], pool()[8:]
	var row []call
	now := 1
	for range length {
		c := call{op: d.from(bag), n: now + d.below(9) - 1}
		switch c.op {
		case "User", "NoUser", "Rest", "Wake":
			c.a = d.from(users)
		case "Role", "NoRole":
			c.a = d.from(roles)
		case "Join", "Leave":
			c.a, c.b = d.from(users), d.from(roles)
		case "Over", "NoOver":
			c.a, c.b = d.from(roles), d.from(roles)
		case "Grant", "Revoke":
			c.a, c.b = d.from(roles), d.from(duties)
		case "Bar", "Unbar":
			c.a, c.b = d.from(users), d.from(duties)
		case "Lend", "Back":
			c.a, c.b = d.from(users), d.from(users)
		case "Tick":
			c.n = d.below(4)
			now += c.n
		}
		if d.below(30) == 0 {
			c.a, c.n = d.from(append(pool(), wrongNames()...)), d.below(3)-1
		}
		if d.below(30) == 0 {
			c.b = d.from(append(pool(), wrongNames()...))
		}
		row = append(row, c)
	}
	return row
}

// rows are rows of calls of which some fill an organisation, and some empty it again and again.
func rows() [][]call {
	fill := map[string]int{"User": 4, "Role": 4, "Join": 12, "Over": 9, "Grant": 9, "Lend": 9, "Bar": 3, "Rest": 1}
	mixed := map[string]int{"User": 9, "Role": 9, "Join": 9, "Over": 6, "Grant": 6, "Lend": 9, "Tick": 3, "Back": 2}
	lending := map[string]int{"User": 20, "Lend": 40, "Tick": 9, "Join": 9, "Role": 9}
	return [][]call{rowOfCalls(1, 400, fill), rowOfCalls(2, 400, mixed), rowOfCalls(3, 400, lending), rowOfCalls(4, 400, nil), rowOfCalls(5, 400, mixed), rowOfCalls(6, 400, fill)}
}
