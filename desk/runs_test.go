package desk_test

import (
	"fmt"
	"strconv"
	"strings"
	"testing"

	"provost/api"
	"provost/desk"
)

// The chapter's runs and examples, and those of the whole.

// pay is the flow of the runs.
const pay = "flow pay\nstep ask\nstep sign needs approve after ask\napart ask, sign\nend\n"

// takes are the Ops by their words, and what each takes, in the order in which it
// stands in a line; op 18, whose Text is no word, is left out.
const takes = `tick 1 n|user 2 a|nouser 3 a|role 4 a|norole 5 a|join 6 ab|leave 7 ab|over 8 ab|noover 9 ab
grant 10 ab|revoke 11 ab|bar 12 ab|unbar 13 ab|lend 14 abn|back 15 ab|rest 16 a|wake 17 a
start 19 a|claim 20 abn|done 21 abn|abort 22 n
inst 30 n|can 31 an|who 32 bn|plan 33 n|why 34 n|log 35 n|whois 36 a|show 37 a|org 38 |stuck 39 |now 40 `

// form is the Op of a word, and what it takes.
func form(word string) (int, string) {
	for _, l := range strings.FieldsFunc(takes, func(r rune) bool { return r == '|' || r == '\n' }) {
		if w := strings.SplitN(l, " ", 3); w[0] == word {
			op, _ := strconv.Atoi(w[1])
			return op, w[2]
		}
	}
	panic("no word " + word)
}

// of is the call of a line; a `""` in it is an empty name.
func of(line string) api.Call {
	w := strings.Fields(strings.ReplaceAll(line, `""`, "\x00"))
	op, fields := form(w[0])
	if len(w) != 1+len(fields) {
		panic("no call: " + line)
	}
	c := api.Call{Op: op}
	for i, x := range fields {
		name := strings.ReplaceAll(w[i+1], "\x00", "")
		switch x {
		case 'a':
			c.A = name
		case 'b':
			c.B = name
		default:
			c.N, _ = strconv.Atoi(name)
		}
	}
	return c
}

func known(text string) api.Call { return api.Call{Op: api.OpFlow, Text: text} }

// said is a reply as a text.
func said(r api.Reply) string {
	if r.Err != api.OK {
		return strings.TrimSuffix(fmt.Sprint(r.Err, r.N, r.Lines), " 0 []")
	}
	return strings.TrimSpace(strconv.Itoa(r.N) + " " + strings.Join(r.Lines, "|"))
}

// answers holds the reply against what it must be, and Check ahead of it.
func answers(t testing.TB, d *desk.Desk, what string, c api.Call, want string) {
	t.Helper()
	why := d.Check(c)
	r := d.Do(c)
	if got := said(r); got != want || why != r.Err {
		t.Errorf("%s: %q, not %q (Check: %v)", what, got, want, why)
	}
}

// plays does lines `call = reply`.
func plays(t testing.TB, d *desk.Desk, lines string) {
	t.Helper()
	for l := range strings.Lines(lines) {
		if l = strings.TrimSpace(l); l != "" {
			line, want, _ := strings.Cut(l, " = ")
			answers(t, d, line, of(line), want)
		}
	}
}

// at is a desk with these flows, behind these calls, which are answered OK.
func at(t testing.TB, flows []string, lines string) *desk.Desk {
	t.Helper()
	d := desk.New()
	var calls []api.Call
	for _, text := range flows {
		calls = append(calls, known(text))
	}
	for l := range strings.Lines(lines) {
		if strings.TrimSpace(l) != "" {
			calls = append(calls, of(l))
		}
	}
	for _, c := range calls {
		if r := d.Do(c); r.Err != api.OK {
			t.Fatal(c, r)
		}
	}
	return d
}

func begun(t *testing.T) *desk.Desk {
	t.Helper()
	d := desk.New()
	plays(t, d, `
		user ann = 0
		user bob = 1
		role r = 0
		grant r ask = 0
		grant r approve = 0
		join ann r = 0`)
	answers(t, d, "flow pay", known(pay), "2")
	plays(t, d, `
		start pay = 1
		inst 1 = 2 flow pay|ask open|sign open`)
	return d
}

func TestRuns(t *testing.T) {
	d := begun(t)
	plays(t, d, `
		why 1 = 3 apart ask, sign|step ask|step sign
		claim ann ask 1 = dead end

		join bob r = 0
		inst 1 = 1 flow pay|ask open|sign open
		plan 1 = 2 ask ann|sign bob
		who ask 1 = 2 ann|bob
		can ann 1 = 1 ask

		claim ann ask 1 = 0
		claim bob ask 1 = claimed
		claim bob sign 1 = too early
		done bob ask 1 = not the holder
		done ann ask 1 = 0
		can ann 1 = 0
		who sign 1 = 1 bob

		nouser bob = 0
		stuck = 1 1
		claim bob sign 1 = no such user
		user bob = 1
		join bob r = 0
		stuck = 0

		tick 4 = 0
		claim bob sign 1 = 0
		nouser bob = 0
		done bob sign 1 = 0
		inst 1 = 3 flow pay|ask done ann 1 1|sign done bob 5 5
		log 1 = 10 1 started|1 stuck|1 free|1 claim ask ann|1 done ask ann|1 stuck|1 free|5 claim sign bob|5 done sign bob|5 finished

		claim ann ask 9 = no such instance
		claim zed ask 1 = no such user
		claim ann zed 1 = no such step
		abort 1 = ended
		start zed = no such flow`)
	answers(t, d, "an Op 99", api.Call{Op: 99}, "no such call")
	answers(t, d, "thirteen steps", known(schema("f", 13)), "too big")
	for i := range 62 {
		answers(t, d, "a user", of(fmt.Sprint("user u", i)), strconv.Itoa(2+i))
	}
	plays(t, d, "user v = too big")
}

// schema is a flow of n steps in no order, with these lines of rules.
func schema(name string, n int, rules ...string) string {
	text := "flow " + name + "\n"
	for i := range n {
		text += fmt.Sprintf("step s%d\n", i)
	}
	for _, x := range rules {
		text += x + "\n"
	}
	return text + "end\n"
}

// A user who is made unknown keeps the steps that they have claimed, and may
// complete them.
func TestExampleOfAUserWhoGoes(t *testing.T) {
	d := begun(t)
	plays(t, d, `
		join bob r = 0
		claim ann ask 1 = 0
		nouser ann = 0
		inst 1 = 1 flow pay|ask claimed ann 1|sign open
		stuck = 0
		plan 1 = 2 ask ann|sign bob
		claim ann sign 1 = no such user
		whois ann = no such user
		done ann ask 1 = 0
		claim bob sign 1 = 0
		done bob sign 1 = 0
		inst 1 = 3 flow pay|ask done ann 1 1|sign done bob 1 1`)
}

// An instance whose problem has no plan at its start is Stuck from its start on.
func TestExampleOfAStuckStart(t *testing.T) {
	d := begun(t)
	plays(t, d, `
		log 1 = 2 1 started|1 stuck
		tick 6 = 0
		start pay = 2
		log 2 = 2 7 started|7 stuck
		stuck = 2 1|2`)
}

// The examples of the whole, as far as they need no disk.
func TestExamplesOfTheWhole(t *testing.T) {
	d := at(t, []string{pay}, `
		user ann
		user bob
		role r
		grant r ask
		grant r approve
		join ann r
		join bob r`)
	plays(t, d, `
		start pay = 1
		plan 1 = 2 ask ann|sign bob
		claim ann sign 1 = too early
		claim ann ask 1 = 0
		claim bob ask 1 = claimed
		done ann ask 1 = 0
		can ann 1 = 0
		leave bob r = 0
		stuck = 1 1
		why 1 = 3 apart ask, sign|step ask|step sign
		claim ann sign 1 = dead end
		lend ann bob 3 = 0
		stuck = 0
		tick 3 = 0
		stuck = 1 1
		join bob r = 0
		claim bob sign 1 = 0
		nouser bob = 0
		done bob sign 1 = 0
		inst 1 = 3 flow pay|ask done ann 1 1|sign done bob 4 4
		start pay = 2
		stuck = 1 2
		log 2 = 2 4 started|4 stuck
		log 1 = 10 1 started|1 claim ask ann|1 done ask ann|1 stuck|1 free|4 stuck|4 free|4 claim sign bob|4 done sign bob|4 finished`)
}
