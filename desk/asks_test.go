package desk_test

import (
	"fmt"
	"testing"

	"provost/desk"
)

// P22.2: each Op's errors, in their order, its N and its Lines.

func TestAskErrors(t *testing.T) {
	d := claims(t)
	for _, n := range []string{"0", "-1", "6", "9223372036854775807", "-9223372036854775808"} {
		for _, line := range []string{"inst ", "can zed ", "can ann ", "who zed ", "who ask ", "plan ", "why ", "log "} {
			answers(t, d, line+n, of(line+n), "no such instance")
		}
	}
	plays(t, d, `
		can zed 1 = no such user
		can zed 4 = no such user
		can dan 1 = no such user
		can A 1 = no such user
		who zed 1 = no such step
		who zed 4 = no such step
		who approve 1 = no such step
		plan 3 = ended
		plan 4 = ended
		why 3 = ended
		why 4 = ended
		whois zed = no such user
		whois dan = no such user
		whois "" = no such user
		show zed = no such flow
		show "" = no such flow
		show r = no such flow`)
}

func TestAskInst(t *testing.T) {
	plays(t, claims(t), `
		inst 1 = 1 flow pay|ask done ann 1 1|sign claimed bob 1
		inst 2 = 1 flow pay|ask open|sign open
		inst 3 = 3 flow pay|ask done ann 1 1|sign done dan 1 1
		inst 4 = 4 flow pay|ask open|sign open
		tick 8 = 0
		done bob sign 1 = 0
		inst 1 = 3 flow pay|ask done ann 1 1|sign done bob 1 9
		claim bob ask 2 = 0
		tick 1 = 0
		inst 2 = 1 flow pay|ask claimed bob 9|sign open
		done bob ask 2 = 0
		nouser ann = 0
		inst 2 = 2 flow pay|ask done bob 9 10|sign open
		abort 2 = 0
		inst 2 = 4 flow pay|ask done bob 9 10|sign open`)
}

func TestAskCanAndWho(t *testing.T) {
	d := claims(t)
	plays(t, d, `
		can ann 1 = 0
		can bob 1 = 0
		who ask 1 = 0
		who sign 1 = 0
		can ann 2 = 1 ask
		can cyd 2 = 0
		who ask 2 = 2 ann|bob
		who sign 2 = 0
		can ann 3 = 0
		who ask 3 = 0
		can ann 4 = 0
		who ask 4 = 0
		can ann 5 = 0
		can bob 5 = 1 sign
		who sign 5 = 1 bob
		join cyd r = 0
		user dan = 3
		join dan r = 0
		who sign 5 = 3 bob|cyd|dan
		rest cyd = 0
		who sign 5 = 2 bob|dan
		bar dan approve = 0
		who sign 5 = 1 bob
		who ask 2 = 3 ann|bob|dan
		nouser bob = 0
		who sign 5 = 0
		stuck = 1 5
		can ann 5 = 0
		can ann 2 = 0
		who ask 2 = 1 dan
		can dan 2 = 1 ask`)
	d = at(t, []string{"flow f\nstep c\nstep a needs c\nstep b after a\nstep d\napart c, a\nsame a, d\nend\n"}, "user ann\nuser bob\nrole r\njoin ann r\njoin bob r\ngrant r c\ngrant r b\ngrant r d\nstart f")
	plays(t, d, `
		can ann 1 = 3 c|a|d
		claim ann a 1 = 0
		can ann 1 = 1 d
		can bob 1 = 1 c
		done ann a 1 = 0
		can ann 1 = 2 b|d
		can bob 1 = 2 c|b
		who b 1 = 2 ann|bob
		who d 1 = 1 ann`)
}

// Users are told by their numbers, not by their names.
func TestAskWhoByNumbers(t *testing.T) {
	d := at(t, []string{pay}, "user zoe\nuser bob\nuser amy\nrole r\ngrant r ask\ngrant r approve\njoin zoe r\njoin amy r\njoin bob r\nstart pay")
	plays(t, d, `
		who ask 1 = 3 zoe|bob|amy
		plan 1 = 2 ask zoe|sign bob
		nouser zoe = 0
		user zoe = 0
		join zoe r = 0
		who ask 1 = 3 zoe|bob|amy`)
}

func TestAskPlan(t *testing.T) {
	d := at(t, []string{
		"flow f\nstep a\nstep b\nstep c\nend\n",
		"flow g\nstep a\nstep b\nstep c\nmost 1 of a, b, c\nend\n",
	}, "user ann\nuser bob\nuser cyd\nrole r\nrole s\ngrant r a\ngrant r b\ngrant s b\ngrant s c\njoin ann r\njoin bob s\njoin cyd r\njoin cyd s\nstart f\nstart g")
	// The first plan is that of the fewest blocks at the beginning, whoever does them.
	plays(t, d, `
		plan 1 = 3 a cyd|b cyd|c cyd
		plan 2 = 3 a ann|b bob|c cyd
		claim ann b 1 = 0
		plan 1 = 3 a ann|b ann|c bob
		claim cyd b 2 = 0
		plan 2 = 3 a ann|b cyd|c bob
		nouser cyd = 0
		plan 2 = 3 a ann|b cyd|c bob
		rest bob = 0
		plan 1 = dead end
		plan 2 = dead end
		stuck = 2 1|2`)
}

func TestAskWhy(t *testing.T) {
	d := desk.New()
	answers(t, d, "flow", known("flow f\nstep a\nstep b\nstep c\nfew 2 of a, b\napart a, b\nmost 1 of a, b, c\nmany 2 of b, c\nend\n"), "3")
	// Without users nothing is left.
	plays(t, d, `
		start f = 1
		stuck = 1 1
		why 1 = 0
		user ann = 0
		why 1 = 1 step c
		user bob = 1
		user cyd = 2
		why 1 = 1 step c
		role r = 0
		join ann r = 0
		grant r c = 0
		why 1 = 1 step b
		grant r b = 0
		why 1 = 1 step a
		grant r a = 0
		why 1 = 3 many 2 of b, c|step b|step c
		join bob r = 0
		why 1 = 4 most 1 of a, b, c|step a|step b|step c
		join cyd r = 0
		why 1 = 0
		stuck = 0
		inst 1 = 1 flow f|a open|b open|c open`)
}

func TestAskLog(t *testing.T) {
	d := at(t, []string{pay}, "user ann\nuser bob\nrole r\ngrant r ask\ngrant r approve\njoin ann r\njoin bob r\nstart pay\nstart pay")
	plays(t, d, `
		log 1 = 1 1 started
		tick 2 = 0
		claim bob ask 1 = 0
		tick 2 = 0
		done bob ask 1 = 0
		rest ann = 0
		log 1 = 4 1 started|3 claim ask bob|5 done ask bob|5 stuck
		wake ann = 0
		claim ann sign 1 = 0
		nouser ann = 0
		nouser bob = 0
		tick 4 = 0
		done ann sign 1 = 0
		log 1 = 8 1 started|3 claim ask bob|5 done ask bob|5 stuck|5 free|5 claim sign ann|9 done sign ann|9 finished
		log 2 = 4 1 started|5 stuck|5 free|5 stuck
		tick 1 = 0
		abort 2 = 0
		user ann = 0
		log 2 = 5 1 started|5 stuck|5 free|5 stuck|10 aborted`)
}

func TestAskUser(t *testing.T) {
	d := claims(t)
	plays(t, d, `
		whois ann = 0 role r
		whois bob = 1 role r|claim 1 sign
		whois cyd = 0
		role b = 1
		role a = 2
		over b a = 0
		join bob b = 0
		whois bob = 1 role r|role b|role a|claim 1 sign
		claim bob ask 2 = 0
		whois bob = 2 role r|role b|role a|claim 1 sign|claim 2 ask
		claim bob sign 5 = 0
		done bob ask 2 = 0
		whois bob = 2 role r|role b|role a|claim 1 sign|claim 5 sign
		abort 5 = 0
		whois bob = 1 role r|role b|role a|claim 1 sign
		nouser bob = 0
		whois bob = no such user
		user bob = 1
		whois bob = 1 claim 1 sign
		lend ann bob 2 = 0
		whois bob = 1 role r|claim 1 sign
		rest bob = 0
		whois bob = 1 role r|claim 1 sign
		done bob sign 1 = 0
		whois bob = 0 role r`)
	d = at(t, []string{schema("f", 12)}, "user ann\nrole r")
	for i := range 12 {
		d.Do(of(fmt.Sprint("grant r s", i)))
	}
	d.Do(of("join ann r"))
	for i := range 11 {
		d.Do(of("start f"))
		for _, step := range []int{11, i, 3} {
			d.Do(of(fmt.Sprintf("claim ann s%d %d", step, i+1)))
		}
	}
	plays(t, d, `whois ann = 32 role r|claim 1 s0|claim 1 s3|claim 1 s11|claim 2 s1|claim 2 s3|claim 2 s11|claim 3 s2|claim 3 s3|claim 3 s11|claim 4 s3|claim 4 s11|claim 5 s3|claim 5 s4|claim 5 s11|claim 6 s3|claim 6 s5|claim 6 s11|claim 7 s3|claim 7 s6|claim 7 s11|claim 8 s3|claim 8 s7|claim 8 s11|claim 9 s3|claim 9 s8|claim 9 s11|claim 10 s3|claim 10 s9|claim 10 s11|claim 11 s3|claim 11 s10|claim 11 s11`)
}

func TestAskFlow(t *testing.T) {
	d := desk.New()
	plays(t, d, "show pay = no such flow")
	answers(t, d, "a flow", known("# remark\nflow f\n step   b after a ,c\nstep a needs a\nstep c needs x\n\nmany 2 of c,a\nsame b , c\nend"), "3")
	answers(t, d, "a flow", known("flow one\nstep one\nend"), "1")
	plays(t, d, `
		show f = 3 flow f|step b after a, c|step a|step c needs x|many 2 of a, c|same b, c|end
		show one = 1 flow one|step one|end
		show a = no such flow`)
}

func TestAskOrg(t *testing.T) {
	plays(t, desk.New(), `
		org = 0 org 1|end
		role s = 0
		role r = 1
		over s r = 0
		grant r b = 0
		grant r a = 0
		user bob = 0
		user ann = 1
		user cyd = 2
		nouser cyd = 0
		join bob s = 0
		bar ann x = 0
		rest bob = 0
		tick 4 = 0
		lend bob ann 3 = 0
		org = 3 org 5|user bob|user ann|role s|role r|join bob of s|over s, r|grant r, a|grant r, b|bar ann, x|lend bob, ann until 8|rest bob|end`)
}

// Numbers rise as numbers do, not as texts.
func TestAskStuck(t *testing.T) {
	d := at(t, []string{pay}, "user ann")
	plays(t, d, "stuck = 0")
	for range 12 {
		d.Do(of("start pay"))
	}
	plays(t, d, `
		abort 3 = 0
		stuck = 11 1|2|4|5|6|7|8|9|10|11|12`)
}
