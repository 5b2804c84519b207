package roll_test

import (
	"fmt"
	"regexp"
	"slices"
	"strings"
	"testing"

	"provost/api"
	"provost/lex"
	"provost/org"
	"provost/roll"
)

// The text as P10.1 says it, over tokens that are written down by spelt.
const (
	aName = `[a-z][a-z0-9-]* `
	aLine = `(?:user|role|rest) ` + aName + `\n` +
		`|join ` + aName + `of ` + aName + `\n` +
		`|(?:over|grant|bar) ` + aName + `, ` + aName + `\n` +
		`|lend ` + aName + `, ` + aName + `until [0-9]+ \n`
)

var aText = regexp.MustCompile(`\Aorg [0-9]+ \n(?:` + aLine + `)*end \n\z`)

// endings are enough to end every beginning of a text that can be ended.
var endings = []string{
	"", "\n", "org 1 \nend \n", "1 \nend \n", "\nend \n", "end \n",
	"a \nend \n", "a of a \nend \n", "of a \nend \n", "a , a \nend \n", ", a \nend \n",
	"a , a until 1 \nend \n", ", a until 1 \nend \n", "a until 1 \nend \n", "until 1 \nend \n",
}

// spelt writes tokens down, with a blank behind each and the ends of lines as they are.
func spelt(l []api.Token) string {
	var text strings.Builder
	for _, t := range l {
		if t.Kind == api.Line {
			text.WriteString("\n")
		} else {
			text.WriteString(t.Text + " ")
		}
	}
	return text.String()
}

// goesOn: is there a text that begins so?
func goesOn(beginning []api.Token) bool {
	return slices.ContainsFunc(endings, func(ending string) bool {
		return aText.MatchString(spelt(beginning) + ending)
	})
}

func at(why api.Errno, t api.Token) api.Fault {
	return api.Fault{Why: why, Line: t.Line, Col: t.Col}
}

// malformed is P10.2's second refusal, by the longest beginning with which a text goes on.
func malformed(l []api.Token) api.Fault {
	if aText.MatchString(spelt(l)) {
		return api.Fault{}
	}
	for i, t := range l {
		if !goesOn(l[:i+1]) {
			return at(api.ErrForm, t)
		}
	}
	if len(l) == 0 {
		return api.Fault{Why: api.ErrForm}
	}
	return at(api.ErrForm, l[len(l)-1])
}

// parsed is Parse as P10.2 says it.
func parsed(text string) (*org.Org, api.Fault) {
	l, fault := lex.Scan(text)
	if fault == (api.Fault{}) {
		fault = malformed(l)
	}
	if fault != (api.Fault{}) {
		return nil, fault
	}
	lines := lex.Lines(l)
	now := lines[0][1]
	if now.Text == "0" {
		return nil, at(api.ErrArg, now)
	}
	o := org.New()
	if now.Text != "1" {
		o.Tick(now.Number - 1)
	}
	for _, line := range lines[1 : len(lines)-1] {
		if why := do(o, line); why != api.OK {
			return nil, at(why, line[0])
		}
	}
	return o, api.Fault{}
}

// do is P10.2's fourth point, of a line that is one.
func do(o *org.Org, line []api.Token) api.Errno {
	a, b := line[1].Text, ""
	if len(line) > 3 {
		b = line[3].Text
	}
	why := api.OK
	switch line[0].Text {
	case "user":
		_, why = o.User(a)
	case "role":
		_, why = o.Role(a)
	case "join":
		why = o.Join(a, b)
	case "over":
		why = o.Over(a, b)
	case "grant":
		why = o.Grant(a, b)
	case "bar":
		why = o.Bar(a, b)
	case "lend":
		why = o.Lend(a, b, line[5].Number)
	case "rest":
		why = o.Rest(a)
	default:
		panic("no line: " + line[0].Text)
	}
	return why
}

// printed is Print as P10.3 says it, of an organisation.
func printed(o *org.Org) string {
	text := fmt.Sprintf("org %d\n", o.Now())
	for _, user := range o.Users() {
		text += fmt.Sprintf("user %s\n", user)
	}
	for _, role := range o.Roles() {
		text += fmt.Sprintf("role %s\n", role)
	}
	for _, user := range o.Users() {
		for _, role := range o.Joined(user) {
			text += fmt.Sprintf("join %s of %s\n", user, role)
		}
	}
	for _, role := range o.Roles() {
		for _, junior := range o.Juniors(role) {
			text += fmt.Sprintf("over %s, %s\n", role, junior)
		}
	}
	for _, role := range o.Roles() {
		for _, duty := range o.Duties(role) {
			text += fmt.Sprintf("grant %s, %s\n", role, duty)
		}
	}
	for _, user := range o.Users() {
		for _, duty := range o.Bars(user) {
			text += fmt.Sprintf("bar %s, %s\n", user, duty)
		}
	}
	for _, l := range o.Loans() {
		text += fmt.Sprintf("lend %s, %s until %d\n", l.From, l.To, l.Until)
	}
	for _, user := range o.Users() {
		if o.Rests(user) {
			text += fmt.Sprintf("rest %s\n", user)
		}
	}
	return text + "end\n"
}

// names are what an organisation is asked of: those of the tests, those that it has,
// and such as are nobody's.
func names(o *org.Org) []string {
	l := append([]string{"", "A", "nobody"}, pool()...)
	l = append(append(l, o.Users()...), o.Roles()...)
	for _, user := range o.Users() {
		l = append(l, o.Bars(user)...)
	}
	for _, role := range o.Roles() {
		l = append(l, o.Duties(role)...)
	}
	slices.Sort(l)
	return slices.Compact(l)
}

// content is all that P10.4 says an organisation tells of names.
func content(o *org.Org, names []string) string {
	var b strings.Builder
	fmt.Fprintln(&b, "now", o.Now(), "users", o.Users(), "roles", o.Roles(), "loans", o.Loans())
	for _, a := range names {
		fmt.Fprintln(&b, a, "held", o.Held(a), "joined", o.Joined(a), "juniors", o.Juniors(a), "duties", o.Duties(a), "bars", o.Bars(a), "rests", o.Rests(a))
		for _, d := range names {
			if o.Can(a, d) {
				fmt.Fprintln(&b, a, "can", d)
			}
		}
	}
	return b.String()
}

// picture is all that an organisation tells, the numbers and the epoch too.
func picture(o *org.Org) string {
	l := names(o)
	var b strings.Builder
	fmt.Fprintln(&b, content(o, l), "epoch", o.Epoch(), "size", o.Size())
	for _, a := range l {
		find, known := o.Find(a)
		number, numbered := o.Number(a)
		fmt.Fprintln(&b, a, find, known, number, numbered, o.Who(a))
	}
	for i := range o.Size() {
		name, known := o.Name(i)
		fmt.Fprintln(&b, i, name, known)
	}
	return b.String()
}

// checkParse holds Parse against the chapter's words, and what is made against P10.3
// and P10.4.
func checkParse(t *testing.T, text string) api.Fault {
	t.Helper()
	got, fault := roll.Parse(text)
	want, wrong := parsed(text)
	if fault != wrong || (got == nil) != (want == nil) {
		t.Fatalf("Parse(%.300q): %v, %v, not %v, %v", text, got, fault, want, wrong)
	}
	if got == nil {
		return fault
	}
	if is, must := picture(got), picture(want); is != must {
		t.Fatalf("Parse(%.300q) is\n%s\nnot\n%s", text, is, must)
	}
	checkBack(t, got)
	return fault
}

// checkBack holds Print against the chapter's words, and P10.4.
func checkBack(t *testing.T, o *org.Org) {
	t.Helper()
	was := picture(o)
	text := roll.Print(o)
	if must := printed(o); text != must {
		t.Fatalf("Print: %q, not %q", text, must)
	}
	again, fault := roll.Parse(text)
	if len(text) > 65536 {
		if again != nil || fault != (api.Fault{Why: api.ErrTooBig}) {
			t.Fatalf("Parse of a text of %d bytes: %v", len(text), fault)
		}
		return
	}
	if again == nil || fault != (api.Fault{}) {
		t.Fatalf("Parse(%.300q): %v", text, fault)
	}
	l := names(o)
	if is, must := content(again, l), content(o, l); is != must {
		t.Fatalf("behind %q there is\n%s\nnot\n%s", text, is, must)
	}
	if twice := roll.Print(again); twice != text {
		t.Fatalf("Print again: %q, not %q", twice, text)
	}
	if is := picture(o); is != was {
		t.Fatalf("Print has changed\n%s\nto\n%s", was, is)
	}
}

// wantFault is for a text by hand: what is wrong with it, and where.
func wantFault(t *testing.T, text string, want string) {
	t.Helper()
	fault := checkParse(t, text)
	if got := fmt.Sprintf("%v %d:%d", fault.Why, fault.Line, fault.Col); got != want {
		t.Errorf("Parse(%.300q): %s, not %s", text, got, want)
	}
}

// wantPrint is for a text by hand: what is printed of the organisation that it is.
func wantPrint(t *testing.T, text string, want string) {
	t.Helper()
	if fault := checkParse(t, text); fault.Why != api.OK {
		t.Errorf("Parse(%.300q): %v", text, fault)
	}
	if got := roll.Print(must(t, text)); got != want {
		t.Errorf("Print of what is made of %q: %q, not %q", text, got, want)
	}
}

// must is the organisation of a text that is one.
func must(t *testing.T, text string) *org.Org {
	t.Helper()
	o, fault := roll.Parse(text)
	if o == nil || fault != (api.Fault{}) {
		t.Fatalf("Parse(%.300q): %v", text, fault)
	}
	return o
}

// pool are names of users, then of roles, then of duties. Some are words of lines, and
// some are of two kinds, for a name may be.
func pool() []string {
	return []string{"ann", "bob", "user", "of", "clerk", "of", "until", "end", "ask", "a-1", "ann", "clerk", "z"}
}

func poolUsers() []string  { return pool()[:4] }
func poolRoles() []string  { return pool()[4:8] }
func poolDuties() []string { return pool()[8:] }

// draw tells numbers that look drawn and are always the same.
type draw uint64

func (d *draw) below(n int) int {
	*d = *d*6364136223846793005 + 1442695040888963407
	return int(uint64(*d>>33) % uint64(n))
}

func (d *draw) from(l []string) string { return l[d.below(len(l))] }
