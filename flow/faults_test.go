package flow_test

import (
	"fmt"
	"strings"
	"testing"

	"provost/api"
	"provost/flow"
)

// P7.2: which of several faults is told.

// steps are lines of n steps, s0 and so on.
func steps(n int) string {
	var text strings.Builder
	for i := range n {
		fmt.Fprintf(&text, "step s%d\n", i)
	}
	return text.String()
}

// faulty are lines with a fault each, by the point of P7.2 to which it belongs; the
// text around them has the steps a and b.
var faulty = []struct {
	point int
	why   api.Errno
	lines string
}{
	{1, api.ErrForm, "apart a, B"},
	{1, api.ErrName, "step " + strings.Repeat("q", 25)},
	{1, api.ErrForm, "most 01 of a"},
	{2, api.ErrForm, "step"},
	{2, api.ErrForm, "apart a,"},
	{2, api.ErrForm, "jump"},
	{2, api.ErrForm, "most 1 a"},
	{3, api.ErrTwice, "step a"},
	{3, api.ErrTwice, "step b needs c after nobody"},
	{3, api.ErrTooBig, steps(12)},
	{3, api.ErrTooBig, strings.Repeat("few 1 of a\n", 33)},
	{3, api.ErrTooBig, strings.Repeat("few 0 of nobody\n", 33)},
	{4, api.ErrStep, "step c%d after nobody"},
	{4, api.ErrStep, "same a, nobody, a"},
	{4, api.ErrTwice, "step c%d after a, b, a"},
	{4, api.ErrTwice, "same a, a, nobody"},
	{4, api.ErrTwice, "many 9 of b, b"},
	{4, api.ErrArg, "apart a"},
	{4, api.ErrArg, "many 3 of a, b"},
	{4, api.ErrArg, "most 0 of a"},
	{5, api.ErrCycle, "step c%d after c%d"},
}

// numbered gives a line's steps names that no other line has.
func numbered(lines string, n int) string {
	return strings.ReplaceAll(lines, "c%d", fmt.Sprintf("c%d", n))
}

func TestEachFault(t *testing.T) {
	for _, x := range faulty {
		text := "flow f\nstep a\nstep b\n" + numbered(x.lines, 1) + "\nend\n"
		if fault := checkParse(t, text); fault.Why != x.why {
			t.Errorf("Parse(%.300q): %v, not %v", text, fault, x.why)
		}
	}
}

// The fault of the earlier point is told, whichever stands ahead; of one point, the
// one that stands ahead.
func TestTwoFaults(t *testing.T) {
	for _, x := range faulty {
		for _, y := range faulty {
			text := "flow f\nstep a\nstep b\n" + numbered(x.lines, 1) + "\n" + numbered(y.lines, 2) + "\nend\n"
			want := x.why
			if y.point < x.point {
				want = y.why
			}
			if fault := checkParse(t, text); fault.Why != want {
				t.Errorf("Parse(%.300q): %v, not %v", text, fault, want)
			}
			// The steps a and b may come only further down.
			checkParse(t, "flow f\n"+numbered(x.lines, 1)+"\nstep b\n"+numbered(y.lines, 2)+"\nstep a\nend\n")
			checkParse(t, "flow f\n"+numbered(x.lines, 1)+"\n"+numbered(y.lines, 2)+"\nend\n")
		}
	}
}

func TestPlacesOfTwoFaults(t *testing.T) {
	wantFault(t, "flow f\nstep a after q\nstep a\nend", "twice 3:6")
	wantFault(t, "flow f\nstep a\napart a, a, q\nend", "twice 3:10")
	wantFault(t, "flow f\nstep a\napart a, q, a\nend", "no such step 3:10")
	wantFault(t, "flow f\nstep a\nmost 0 of a\nstep b after q\nend", "bad argument 3:1")
	wantFault(t, "flow f\nmost 0 of a\nstep b after q\nend", "no such step 2:11")
	wantFault(t, "flow f\nstep a after a\nmost 0 of a\nend", "bad argument 3:1")
	wantFault(t, "flow f\nstep a after a\n  apart a\nend", "bad argument 3:3")
	wantFault(t, "flow f\nmost 1 of q\nend", "no such step 2:11")
	wantFault(t, "flow f\n\n  end", "malformed 3:3")
	wantFault(t, "flow f\nend\n7", "malformed 3:1")
	wantFault(t, "flow f\nstep a after q\nend z", "malformed 3:5")
	wantFault(t, "flow f\nstep a after a\n # and\n\tend # here", "cycle 4:2")
}

func TestTwelveStepsAndThirteen(t *testing.T) {
	f, fault := flow.Parse("flow f\n" + steps(12) + "end")
	if fault != (api.Fault{}) || len(f.Steps) != 12 || f.Steps[11].Name != "s11" {
		t.Error("of twelve steps:", f, fault)
	}
	checkParse(t, "flow f\n"+steps(12)+"end")
	wantFault(t, "flow f\n"+steps(13)+"end", "too big 14:6")
	wantFault(t, "flow f\n"+steps(14)+"end", "too big 14:6")
	wantFault(t, "flow f\n"+steps(12)+"step s0\nend", "too big 14:6")
	wantFault(t, "flow f\n"+steps(11)+"step s0\nstep s0\nend", "twice 13:6")
	wantFault(t, "flow f\n"+steps(12)+"step x after q\nend", "too big 14:6")
	wantFault(t, "flow f\nsame q\n"+steps(13)+"end", "too big 15:6")
}

func TestThirtyTwoRulesAndThirtyThree(t *testing.T) {
	rules := func(n int) string { return strings.Repeat("most 1 of s0\n", n) }
	f, fault := flow.Parse("flow f\n" + rules(32) + steps(12) + "end")
	if fault != (api.Fault{}) || len(f.Rules) != 32 || len(f.Steps) != 12 {
		t.Error("of thirty-two rules:", f, fault)
	}
	checkParse(t, "flow f\n"+rules(32)+steps(12)+"end")
	wantFault(t, "flow f\n"+rules(33)+steps(1)+"end", "too big 34:1")
	wantFault(t, "flow f\n"+rules(34)+steps(1)+"end", "too big 34:1")
	wantFault(t, "flow f\n"+rules(32)+steps(1)+" "+rules(1)+"end", "too big 35:2")
	wantFault(t, "flow f\n"+rules(32)+steps(1)+"step s0\n"+rules(1)+"end", "twice 35:6")
	wantFault(t, "flow f\n"+rules(33)+steps(1)+"step s0\nend", "too big 34:1")
	wantFault(t, "flow f\n"+rules(33)+"end", "too big 34:1")
	wantFault(t, "flow f\n"+rules(32)+"end", "no such step 2:11")
	wantFault(t, "flow f\n"+rules(32)+steps(13)+rules(1)+"end", "too big 46:6")
	mixed := "apart s0, s1\nsame s0, s1\nmost 1 of s0\nfew 1 of s0\nmany 1 of s0\n"
	wantFault(t, "flow f\n"+steps(2)+strings.Repeat(mixed, 7)+"end", "too big 36:1")
	if _, fault := flow.Parse("flow f\n" + steps(2) + strings.Repeat(mixed, 6) + "end"); fault != (api.Fault{}) {
		t.Error("of thirty rules of five kinds:", fault)
	}
}

func TestLists(t *testing.T) {
	wantFlow(t, "flow f\nstep a after d, b, c\nstep b\napart d, c, b, a\nstep c\nstep d\nmany 2 of d, a\nend", api.Flow{
		Name:  "f",
		Steps: []api.Step{step("a", "a", 1, 2, 3), step("b", "b"), step("c", "c"), step("d", "d")},
		Rules: []api.Rule{between(api.Apart, 0, 0, 1, 2, 3), between(api.Many, 2, 0, 3)},
	})
	text, names := "flow f\n"+steps(12), ""
	for i := range 12 {
		names = fmt.Sprintf(", s%d%s", i, names)
	}
	f, fault := flow.Parse(text + "few 999999999 of " + names[2:] + "\nend")
	want := between(api.Few, 999999999, 0, 1, 2, 3, 4, 5, 6, 7, 8, 9, 10, 11)
	if fault != (api.Fault{}) || !like(api.Flow{Rules: f.Rules}, api.Flow{Rules: []api.Rule{want}}) {
		t.Error("of a LIST of twelve:", f, fault)
	}
	wantFault(t, text+"same"+names[1:]+names+"\nend", "twice 14:56")
	wantFault(t, text+"same"+names[1:]+", f\nend", "no such step 14:56")
	wantFault(t, text+"step s12\nend", "too big 14:6")
}

// A name that is a duty's or the flow's alone is no step's.
func TestNamesThatAreNoSteps(t *testing.T) {
	wantFault(t, "flow f\nstep a needs d after f\nend", "no such step 2:22")
	wantFault(t, "flow f\nstep a needs d after d\nend", "no such step 2:22")
	wantFault(t, "flow f\nstep a needs d\nfew 1 of d\nend", "no such step 3:10")
	wantFault(t, "flow f\nstep a needs d\nstep d needs a after a\nend", "ok 0:0")
	wantFault(t, "flow f\nstep a needs d\nstep b needs d\nend", "ok 0:0")
}

func TestRulesThatCheckRefuses(t *testing.T) {
	for _, x := range []struct {
		line string
		ok   bool
	}{
		{"apart a", false},
		{"apart a, b", true},
		{"same b", false},
		{"same c, b, a", true},
		{"most 0 of a", false},
		{"most 1 of a", true},
		{"most 999999999 of a", true},
		{"few 0 of a, b", false},
		{"few 999999999 of c", true},
		{"many 0 of a", false},
		{"many 1 of a", true},
		{"many 2 of a", false},
		{"many 3 of c, a, b", true},
		{"many 4 of c, a, b", false},
	} {
		want := "ok 0:0"
		if !x.ok {
			want = "bad argument 5:1"
		}
		wantFault(t, "flow f\nstep a\nstep b\nstep c\n"+x.line+"\nend", want)
	}
}

func TestOrdersThatAreNone(t *testing.T) {
	for n := 1; n <= 12; n++ {
		row := ""
		for i := range n - 1 {
			row += fmt.Sprintf("step s%d after s%d\n", i, i+1)
		}
		wantFault(t, fmt.Sprintf("flow f\n%sstep s%d\nend", row, n-1), "ok 0:0")
		wantFault(t, fmt.Sprintf("flow f\n%sstep s%d after s0\nend", row, n-1), fmt.Sprintf("cycle %d:1", n+2))
	}
	wantFault(t, "flow f\nstep a\nstep b after a, d\nstep c after b\nstep d after c\nend", "cycle 6:1")
	wantFault(t, "flow f\nstep a\nstep b after b, a\nend", "cycle 4:1")
	wantFault(t, "flow f\nstep a after b\nstep b\nend", "ok 0:0")
}

// Texts drawn from lines that are mostly sound.
func TestDrawnTexts(t *testing.T) {
	var d draw = 7
	faults := map[api.Errno]int{}
	for range 6000 {
		text := "flow f\n"
		for i := range d.below(9) {
			text += d.line(i) + "\n"
		}
		faults[checkParse(t, text+"end\n").Why]++
	}
	for _, why := range []api.Errno{api.OK, api.ErrForm, api.ErrTwice, api.ErrStep, api.ErrArg, api.ErrCycle} {
		if faults[why] < 50 {
			t.Errorf("only %d texts with %v", faults[why], why)
		}
	}
}

// line is a line that has a step's name a, b and so on, mostly the one of its number.
func (d *draw) line(i int) string {
	name := func() string { return string(rune('a' + d.below(min(i+2, 6)))) }
	list := func() string {
		l := name()
		for range d.below(3) {
			l += ", " + name()
		}
		return l
	}
	switch d.below(12) {
	case 0:
		return []string{"apart ", "same "}[d.below(2)] + list()
	case 1:
		return []string{"most ", "few ", "many "}[d.below(3)] + fmt.Sprint(d.below(4)) + " of " + list()
	case 2:
		return "step " + name()
	case 3:
		return "step " + string(rune('a'+i)) + " needs " + name()
	case 4, 5:
		return "step " + string(rune('a'+i)) + " after " + list()
	case 6:
		return "step " + string(rune('a'+i)) + " needs " + name() + " after " + list()
	case 7:
		return []string{"step", "most 1 a", "a", ", a", "step a after", "#"}[d.below(6)]
	}
	return "step " + string(rune('a'+i))
}
