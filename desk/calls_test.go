package desk_test

import (
	"fmt"
	"math"
	"strconv"
	"strings"
	"testing"

	"provost/api"
	"provost/desk"
)

// P22.1: each Op's errors, in their order, and its N.

func TestTick(t *testing.T) {
	d := desk.New()
	plays(t, d, `
		now = 1
		tick 0 = bad argument
		tick -1 = bad argument
		tick -9223372036854775808 = bad argument
		tick 999999999 = clock
		tick 9223372036854775807 = clock
		now = 1
		tick 1 = 0
		now = 2
		tick 999999998 = clock
		tick 999999997 = 0
		now = 999999999
		tick 1 = clock
		tick 0 = bad argument`)
}

func TestUsers(t *testing.T) {
	d := desk.New()
	for i := range 64 {
		answers(t, d, "user", of(fmt.Sprint("user u", i)), strconv.Itoa(i))
	}
	// Names that have a number are made known again, where there is room for no other.
	plays(t, d, `
		user v = too big
		user "" = bad name
		user V = bad name
		user u63 = twice
		nouser v = no such user
		nouser u7 = 0
		nouser u7 = no such user
		user v = too big
		user u7 = 7
		user u7 = twice`)
	plays(t, desk.New(), `
		user abcdefghijklmnopqrstuvw- = 0
		user abcdefghijklmnopqrstuvwxy = bad name
		user abcdefghijklmnopqrstuvw- = twice`)
}

func TestRoles(t *testing.T) {
	d := desk.New()
	for i := range 64 {
		answers(t, d, "role", of(fmt.Sprint("role r", i)), strconv.Itoa(i))
	}
	plays(t, d, `
		role s = too big
		role "" = bad name
		role S = bad name
		role r63 = twice
		norole s = no such role
		norole r7 = 0
		norole r7 = no such role
		role s = too big
		role r7 = 7
		role r7 = twice`)
	d = desk.New()
	for i := range 64 {
		for _, line := range []string{"role r", "norole r", "user r"} {
			if r := d.Do(of(line + strconv.Itoa(i))); r.Err != api.OK {
				t.Fatal(line, i, r)
			}
		}
	}
	plays(t, d, "role s = too big\nrole r9 = 9\nrole r9 = twice\nuser s = too big\nuser r9 = twice")
}

func TestLinks(t *testing.T) {
	plays(t, desk.New(), `
		user ann = 0
		role r = 0
		role s = 1
		role q = 2
		join zed zed = no such user
		join ann zed = no such role
		join ann r = 0
		join ann r = twice
		leave zed zed = no such user
		leave ann zed = no such role
		leave ann s = no such link
		whois ann = 0 role r
		leave ann r = 0
		leave ann r = no such link
		whois ann = 0
		over zed r = no such role
		over r zed = no such role
		over r r = cycle
		over r s = 0
		over r s = twice
		over s r = cycle
		over s q = 0
		over q r = cycle
		noover zed r = no such role
		noover r zed = no such role
		noover s r = no such link
		noover r q = no such link
		noover r s = 0
		noover r s = no such link
		over q r = 0
		over r s = cycle
		grant zed A = no such role
		grant r A = bad name
		grant r "" = bad name
		grant r a = 0
		grant r a = twice
		revoke zed a = no such role
		revoke r A = no such link
		revoke r b = no such link
		revoke r a = 0
		revoke r a = no such link
		bar zed A = no such user
		bar ann A = bad name
		bar ann a = 0
		bar ann a = twice
		unbar zed a = no such user
		unbar ann A = no such link
		unbar ann b = no such link
		unbar ann a = 0
		unbar ann a = no such link
		rest zed = no such user
		rest ann = 0
		rest ann = twice
		wake zed = no such user
		wake ann = 0
		wake ann = no such link
		org = 1 org 1|user ann|role r|role s|role q|over s, q|over q, r|end`)
}

func TestLoans(t *testing.T) {
	d := at(t, nil, "user ann\nuser bob\nuser cyd\ntick 6")
	plays(t, d, `
		lend zed ann 0 = no such user
		lend ann zed 999999999 = no such user
		lend zed zed 5 = no such user
		lend ann ann 5 = bad argument
		lend ann bob 0 = bad argument
		lend ann bob -1 = bad argument
		lend ann bob -7 = bad argument
		lend ann bob -9223372036854775808 = bad argument
		lend ann bob 999999993 = bad argument
		lend ann bob 999999999 = bad argument
		lend ann bob 9223372036854775807 = bad argument
		lend ann bob 9223372036854775801 = bad argument
		lend ann bob 999999992 = 0
		lend ann bob 0 = bad argument
		lend ann bob 999999993 = bad argument
		lend ann bob 1 = twice
		lend bob ann 1 = 0
		lend bob cyd 2 = 0
		lend cyd bob 2 = 0
		org = 3 org 7|user ann|user bob|user cyd|lend bob, ann until 8|lend bob, cyd until 9|lend cyd, bob until 9|lend ann, bob until 999999999|end
		back zed ann = no such user
		back ann zed = no such user
		back ann ann = no such link
		back cyd ann = no such link
		back ann bob = 0
		back ann bob = no such link`)
	// Of loans until one tick the first one stays the first, though it was asked whether
	// it can end.
	answers(t, d, "org", of("org"), "3 org 7|user ann|user bob|user cyd|lend bob, ann until 8|lend bob, cyd until 9|lend cyd, bob until 9|end")
	if why := d.Check(of("back bob cyd")); why != api.OK {
		t.Error("Check of back:", why)
	}
	plays(t, d, `
		org = 3 org 7|user ann|user bob|user cyd|lend bob, ann until 8|lend bob, cyd until 9|lend cyd, bob until 9|end
		tick 1 = 0
		back bob ann = no such link
		back bob cyd = 0
		nouser bob = 0
		back cyd bob = no such user
		user bob = 1
		back cyd bob = no such link
		org = 3 org 8|user ann|user bob|user cyd|end`)
}

// Each N is a number of ticks from now on: the loan is gone from the last one on.
func TestLoansEnd(t *testing.T) {
	for n := 1; n < 5; n++ {
		d := at(t, nil, fmt.Sprint("user ann\nuser bob\nrole r\njoin ann r\ntick 9\nlend ann bob ", n))
		for range n {
			answers(t, d, "whois", of("whois bob"), "0 role r")
			answers(t, d, "tick", of("tick 1"), "0")
		}
		answers(t, d, "whois", of("whois bob"), "0")
	}
}

func TestFlows(t *testing.T) {
	d := desk.New()
	wrong := func() {
		for text, want := range map[string]string{
			"": "malformed", "flow": "malformed", "flow pay\nend": "malformed", "flow f\nend": "malformed", "\x00": "malformed",
			strings.Repeat("#", 65537):                              "too big",
			"flow " + strings.Repeat("f", 25) + "\nstep a\nend":     "bad name",
			"flow pay\nstep a after b\nend":                         "no such step",
			"flow pay\nstep a\nstep a\nend":                         "twice",
			"flow pay\nstep a\napart a\nend":                        "bad argument",
			"flow pay\nstep a after a\nend":                         "cycle",
			schema("f", 13):                                         "too big",
			schema("f", 1, strings.Split(rulesOf(33), "\n")...):     "too big",
			schema("pay", 13):                                       "too big",
			schema("f", 1) + "now":                                  "malformed",
			"flow f\nstep a\nstep b after a, c\napart a, b, a\nend": "no such step",
		} {
			answers(t, d, text, known(text), want)
		}
	}
	wrong()
	answers(t, d, "pay", known(pay), "2")
	answers(t, d, "pay", known(pay), "twice")
	answers(t, d, "another flow pay", known(schema("pay", 3)), "twice")
	for i := range 63 {
		answers(t, d, "flow", known(schema(fmt.Sprint("f", i), 1+i%12)), strconv.Itoa(1+i%12))
	}
	answers(t, d, "a flow more", known(schema("g", 1)), "too big")
	answers(t, d, "pay", known(pay), "twice")
	wrong()
	plays(t, d, "show pay = 2 flow pay|step ask|step sign needs approve after ask|apart ask, sign|end\nshow g = no such flow")
}

// rulesOf are so many rules of one step.
func rulesOf(n int) string {
	return strings.TrimSuffix(strings.Repeat("few 1 of s0\n", n), "\n")
}

// At the limits of a flow and of names.
func TestGreatestFlow(t *testing.T) {
	long := strings.Repeat("f", 24)
	text := schema(long, 12, strings.Split(rulesOf(32), "\n")...)
	text += strings.Repeat("#", 65536-len(text))
	d := desk.New()
	answers(t, d, "the greatest flow", known(text), "12")
	plays(t, d, "start "+long+" = 1\nstuck = 1 1")
	if r := d.Do(of("show " + long)); r.N != 12 || len(r.Lines) != 46 {
		t.Error(r)
	}
}

func TestStart(t *testing.T) {
	d := at(t, []string{pay}, "tick 3")
	for i := range 4096 {
		if i%2 == 1 && i > 10 {
			answers(t, d, "abort", of(fmt.Sprint("abort ", i)), "0")
		}
		answers(t, d, "start", of("start pay"), strconv.Itoa(1+i))
	}
	plays(t, d, `
		start pay = too big
		start zed = no such flow
		start "" = no such flow
		abort 4096 = 0
		start pay = too big
		inst 4096 = 4 flow pay|ask open|sign open
		inst 4097 = no such instance
		log 4096 = 3 4 started|4 stuck|4 aborted`)
}

// claims is a desk with an instance in each state: 1 has ask completed by ann, sign
// claimed by bob; 2 is open; 3 is finished, 4 aborted, 5 has ask completed; cyd may do
// nothing, and dan has gone.
func claims(t *testing.T) *desk.Desk {
	return at(t, []string{pay}, `
		user ann
		user bob
		user cyd
		user dan
		role r
		grant r ask
		grant r approve
		join ann r
		join bob r
		join dan r
		start pay
		start pay
		start pay
		start pay
		start pay
		claim ann ask 1
		done ann ask 1
		claim bob sign 1
		claim ann ask 3
		done ann ask 3
		claim dan sign 3
		done dan sign 3
		abort 4
		claim ann ask 5
		done ann ask 5
		nouser dan`)
}

func TestClaimErrors(t *testing.T) {
	plays(t, claims(t), `
		claim zed zed 0 = no such instance
		claim ann ask -1 = no such instance
		claim ann ask 6 = no such instance
		claim ann ask 9223372036854775807 = no such instance
		claim ann ask -9223372036854775808 = no such instance
		claim zed zed 3 = no such user
		claim dan zed 3 = no such user
		claim "" ask 2 = no such user
		claim A ask 2 = no such user
		claim dan ask 2 = no such user
		claim ann zed 3 = no such step
		claim ann approve 2 = no such step
		claim ann "" 2 = no such step
		claim cyd ask 3 = ended
		claim cyd sign 4 = ended
		claim ann ask 4 = ended
		claim cyd ask 1 = claimed
		claim cyd sign 1 = claimed
		claim bob sign 1 = claimed
		claim ann ask 1 = claimed
		claim cyd sign 2 = too early
		claim ann sign 2 = too early
		claim cyd ask 2 = not authorised
		claim cyd sign 5 = not authorised
		claim ann sign 5 = dead end
		claim bob sign 5 = 0
		claim ann ask 2 = 0
		claim ann sign 2 = too early`)
}

func TestDoneErrors(t *testing.T) {
	d := claims(t)
	plays(t, d, `
		done zed zed 0 = no such instance
		done ann ask -1 = no such instance
		done ann ask 6 = no such instance
		done ann ask 9223372036854775807 = no such instance
		done zed zed 3 = no such user
		done A ask 1 = no such user
		done "" ask 1 = no such user
		done dan zed 3 = no such step
		done ann zed 1 = no such step
		done ann approve 1 = no such step
		done ann ask 3 = ended
		done cyd sign 3 = ended
		done ann ask 4 = ended
		done dan ask 4 = ended
		done dan ask 2 = not claimed
		done ann sign 5 = not claimed
		done cyd ask 1 = done
		done ann ask 1 = done
		done ann sign 1 = not the holder
		done dan sign 1 = not the holder
		done bob sign 1 = 0
		done bob sign 1 = ended
		abort 1 = ended`)
}

func TestAbortErrors(t *testing.T) {
	plays(t, claims(t), `
		abort 0 = no such instance
		abort -1 = no such instance
		abort 6 = no such instance
		abort 9223372036854775807 = no such instance
		abort 3 = ended
		abort 4 = ended
		abort 1 = 0
		abort 1 = ended
		done bob sign 1 = ended
		inst 1 = 4 flow pay|ask done ann 1 1|sign claimed bob 1
		log 1 = 5 1 started|1 claim ask ann|1 done ask ann|1 claim sign bob|1 aborted
		abort 2 = 0
		log 2 = 2 1 started|1 aborted`)
}

// A claim fixes a step for ever; a claim that was refused does not.
func TestClaimsStay(t *testing.T) {
	d := at(t, []string{"flow f\nstep a\nstep b\nstep c\nsame a, b\napart b, c\nend\n"}, `
		user ann
		user bob
		role r
		grant r a
		grant r b
		grant r c
		join ann r
		join bob r
		start f
		start f`)
	plays(t, d, `
		plan 1 = 3 a ann|b ann|c bob
		claim bob b 1 = 0
		claim ann a 1 = dead end
		claim bob c 1 = dead end
		plan 1 = 3 a bob|b bob|c ann
		can ann 1 = 1 c
		can bob 1 = 1 a
		claim ann c 1 = 0
		done ann c 1 = 0
		claim bob a 1 = 0
		plan 1 = 3 a bob|b bob|c ann
		plan 2 = 3 a ann|b ann|c bob
		leave bob r = 0
		stuck = 1 2
		done bob b 1 = 0
		done bob a 1 = 0
		inst 1 = 3 flow f|a done bob 1 1|b done bob 1 1|c done ann 1 1`)
}

// Any other Op is no call.
func TestOtherOps(t *testing.T) {
	d := claims(t)
	for _, op := range []int{0, -1, 23, 24, 29, 41, 42, 99, 255, 256, math.MaxInt, math.MinInt, 1 << 32, 1<<32 + 1, 1<<32 + 40} {
		answers(t, d, fmt.Sprint("Op ", op), api.Call{Op: op, A: "ann", B: "ask", N: 2, Text: pay}, "no such call")
	}
}
