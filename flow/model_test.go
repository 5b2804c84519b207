package flow_test

import (
	"fmt"
	"regexp"
	"slices"
	"strconv"
	"strings"
	"testing"

	"provost/api"
	"provost/flow"
	"provost/lex"
	"provost/rule"
)

// The text as P7.1 says it, over tokens that are written down by spelt.
const (
	aName = `[a-z][a-z0-9-]* `
	aList = aName + `(?:, ` + aName + `)*`
	aLine = `step ` + aName + `(?:needs ` + aName + `)?(?:after ` + aList + `)?\n` +
		`|(?:apart|same) ` + aList + `\n` +
		`|(?:most|few|many) [0-9]+ of ` + aList + `\n`
)

var (
	aText     = regexp.MustCompile(`\Aflow ` + aName + `\n(?:` + aLine + `)*end \n\z`)
	wholeName = regexp.MustCompile(`\A[a-z][a-z0-9-]{0,23}\z`)
	// heads is what stands ahead of a line's LIST; a step may have none.
	heads = regexp.MustCompile(`\A(?:step ` + aName + `(?:needs ` + aName + `)?(?:after )?|apart |same |[a-z]+ [0-9]+ of )`)
)

// endings are enough to end every beginning of a text that can be ended.
var endings = []string{"", "\n", "flow a \nend \n", "a \nend \n", "\nend \n", "end \n", "1 of a \nend \n", "of a \nend \n"}

// spelt writes tokens down, with a blank behind each and the ends of lines as they are.
func spelt(l []api.Token) string {
	var text strings.Builder
	for _, t := range l {
		if t.Kind == api.Line {
			text.WriteString("\n")
		} else {
			text.WriteString(t.Text + " ")
		}
	}
	return text.String()
}

// goesOn: is there a text that begins so?
func goesOn(beginning []api.Token) bool {
	return slices.ContainsFunc(endings, func(ending string) bool {
		return aText.MatchString(spelt(beginning) + ending)
	})
}

func at(why api.Errno, t api.Token) api.Fault {
	return api.Fault{Why: why, Line: t.Line, Col: t.Col}
}

// malformed is P7.2's second refusal, by the longest beginning with which a text goes on.
func malformed(l []api.Token) api.Fault {
	if aText.MatchString(spelt(l)) {
		return api.Fault{}
	}
	for i, t := range l {
		if !goesOn(l[:i+1]) {
			return at(api.ErrForm, t)
		}
	}
	if len(l) == 0 {
		return api.Fault{Why: api.ErrForm}
	}
	return at(api.ErrForm, l[len(l)-1])
}

// parsed is Parse as P7.2 says it: one look at the lines for each of its points.
func parsed(text string) (api.Flow, api.Fault) {
	l, fault := lex.Scan(text)
	if fault == (api.Fault{}) {
		fault = malformed(l)
	}
	if fault != (api.Fault{}) {
		return api.Flow{}, fault
	}
	lines := lex.Lines(l)
	first, between, last := lines[0], lines[1:len(lines)-1], lines[len(lines)-1]
	names, fault := stepsNames(between)
	if fault != (api.Fault{}) {
		return api.Flow{}, fault
	}
	f := api.Flow{Name: first[1].Text}
	for _, line := range between {
		numbers, fault := listed(names, line)
		if fault != (api.Fault{}) {
			return api.Flow{}, fault
		}
		if line[0].Text == "step" {
			f.Steps = append(f.Steps, api.Step{Name: line[1].Text, Duty: dutyOf(line), After: numbers})
			continue
		}
		r := api.Rule{Kind: kindOf(line), K: line[1].Number, Steps: numbers}
		if rule.Check(len(names), r) != api.OK {
			return api.Flow{}, at(api.ErrArg, line[0])
		}
		f.Rules = append(f.Rules, r)
	}
	switch {
	case len(names) == 0:
		return api.Flow{}, at(api.ErrForm, last[0])
	case cyclic(f.Steps):
		return api.Flow{}, at(api.ErrCycle, last[0])
	}
	return f, api.Fault{}
}

// stepsNames is P7.2's third point.
func stepsNames(lines [][]api.Token) ([]string, api.Fault) {
	var names []string
	rules := 0
	for _, line := range lines {
		if line[0].Text != "step" {
			if rules++; rules == 33 {
				return nil, at(api.ErrTooBig, line[0])
			}
			continue
		}
		if names = append(names, line[1].Text); len(names) == 13 {
			return nil, at(api.ErrTooBig, line[1])
		}
		if slices.Index(names, line[1].Text) != len(names)-1 {
			return nil, at(api.ErrTwice, line[1])
		}
	}
	return names, api.Fault{}
}

// listed are the numbers of a line's LIST, rising: the beginning of P7.2's fourth point.
func listed(names []string, line []api.Token) ([]int, api.Fault) {
	ahead := strings.Count(heads.FindString(spelt(line)), " ")
	var numbers []int
	for i := ahead; i < len(line); i += 2 {
		number := slices.Index(names, line[i].Text)
		if number < 0 {
			return nil, at(api.ErrStep, line[i])
		}
		if slices.Contains(numbers, number) {
			return nil, at(api.ErrTwice, line[i])
		}
		numbers = append(numbers, number)
	}
	slices.Sort(numbers)
	return numbers, api.Fault{}
}

func dutyOf(line []api.Token) string {
	if len(line) > 2 && line[2].Text == "needs" {
		return line[3].Text
	}
	return line[1].Text
}

func kindOf(line []api.Token) int {
	return 1 + slices.Index([]string{"apart", "same", "most", "few", "many"}, line[0].Text)
}

// cyclic: do steps stay, when those of which none that is left comes ahead are taken
// out again and again?
func cyclic(steps []api.Step) bool {
	left := map[int]bool{}
	for i := range steps {
		left[i] = true
	}
	for range steps {
		for i := range steps {
			if !slices.ContainsFunc(steps[i].After, func(a int) bool { return left[a] }) {
				delete(left, i)
			}
		}
	}
	return len(left) > 0
}

// printed is Print as P7.4 says it, of a flow that Check takes.
func printed(f api.Flow) string {
	text := "flow " + f.Name + "\n"
	listOf := func(numbers []int) string {
		var names []string
		for _, n := range numbers {
			names = append(names, f.Steps[n].Name)
		}
		return strings.Join(names, ", ")
	}
	for _, s := range f.Steps {
		text += "step " + s.Name
		if s.Name != s.Duty {
			text += " needs " + s.Duty
		}
		if len(s.After) > 0 {
			text += " after " + listOf(s.After)
		}
		text += "\n"
	}
	for _, r := range f.Rules {
		word := []string{"", "apart", "same", "most", "few", "many"}[r.Kind]
		if r.Kind > api.Same {
			word += " " + strconv.Itoa(r.K) + " of"
		}
		text += word + " " + listOf(r.Steps) + "\n"
	}
	return text + "end\n"
}

// checked is Check as P7.3 says it.
func checked(f api.Flow) api.Errno {
	isName := wholeName.MatchString
	switch {
	case !isName(f.Name):
		return api.ErrName
	case len(f.Steps) > 12:
		return api.ErrTooBig
	case len(f.Steps) < 1:
		return api.ErrArg
	}
	for i, s := range f.Steps {
		switch {
		case !isName(s.Name) || !isName(s.Duty):
			return api.ErrName
		case slices.ContainsFunc(f.Steps[:i], func(a api.Step) bool { return a.Name == s.Name }):
			return api.ErrTwice
		}
		for j, a := range s.After {
			if a < 0 || a >= len(f.Steps) || j > 0 && a <= s.After[j-1] {
				return api.ErrArg
			}
		}
	}
	switch {
	case len(f.Rules) > 32:
		return api.ErrTooBig
	case slices.ContainsFunc(f.Rules, func(r api.Rule) bool { return rule.Check(len(f.Steps), r) != api.OK }):
		return api.ErrArg
	case cyclic(f.Steps):
		return api.ErrCycle
	}
	return api.OK
}

// like: are they one flow? Nil and empty lists are one.
func like(a, b api.Flow) bool {
	return a.Name == b.Name &&
		slices.EqualFunc(a.Steps, b.Steps, func(s, t api.Step) bool {
			return s.Name == t.Name && s.Duty == t.Duty && slices.Equal(s.After, t.After)
		}) &&
		slices.EqualFunc(a.Rules, b.Rules, func(r, s api.Rule) bool {
			return r.Kind == s.Kind && r.K == s.K && slices.Equal(r.Steps, s.Steps)
		})
}

// checkParse holds Parse against the chapter's words, and what is told against P7.6.
func checkParse(t *testing.T, text string) api.Fault {
	t.Helper()
	got, fault := flow.Parse(text)
	want, wrong := parsed(text)
	if fault != wrong || !like(got, want) {
		t.Fatalf("Parse(%.300q): %v, %v, not %v, %v", text, got, fault, want, wrong)
	}
	if fault.Why == api.OK {
		if err := flow.Check(got); err != api.OK {
			t.Fatalf("Check of what Parse(%.300q) tells: %v", text, err)
		}
		checkFlow(t, got)
	}
	return fault
}

// checkFlow holds Check, Print and Order against the chapter's words, and Print
// against P7.6.
func checkFlow(t *testing.T, f api.Flow) api.Errno {
	t.Helper()
	want := checked(f)
	text, printErr := flow.Print(f)
	o, orderErr := flow.Order(f)
	if err := flow.Check(f); err != want || printErr != want || orderErr != want {
		t.Fatalf("of %v: Check %v, Print %v, Order %v, not %v", f, err, printErr, orderErr, want)
	}
	if want != api.OK {
		if text != "" || o != nil {
			t.Fatalf("of %v: %q, %v beside %v", f, text, o, want)
		}
		return want
	}
	if text != printed(f) {
		t.Fatalf("Print(%v): %q, not %q", f, text, printed(f))
	}
	if again, fault := flow.Parse(text); fault != (api.Fault{}) || !like(again, f) {
		t.Fatalf("Parse(%q): %v, %v, not %v", text, again, fault, f)
	}
	checkOrder(t, f)
	return want
}

// checkOrder holds Order against ways from step to step.
func checkOrder(t *testing.T, f api.Flow) {
	t.Helper()
	o, _ := flow.Order(f)
	if o.Len() != len(f.Steps) {
		t.Fatalf("Order(%v) is of %d steps", f, o.Len())
	}
	var ahead func(a, b int) bool
	ahead = func(a, b int) bool {
		return slices.ContainsFunc(f.Steps[b].After, func(c int) bool { return c == a || ahead(a, c) })
	}
	for a := range f.Steps {
		for b := range f.Steps {
			if o.Before(a, b) != ahead(a, b) {
				t.Fatalf("Order(%v): Before(%d, %d) is %v", f, a, b, !ahead(a, b))
			}
		}
	}
}

// wantFault is for a text by hand: what is wrong with it, and where.
func wantFault(t *testing.T, text string, want string) {
	t.Helper()
	fault := checkParse(t, text)
	if got := fmt.Sprintf("%v %d:%d", fault.Why, fault.Line, fault.Col); got != want {
		t.Errorf("Parse(%.300q): %s, not %s", text, got, want)
	}
}

// wantFlow is for a text by hand: the flow that it is.
func wantFlow(t *testing.T, text string, want api.Flow) {
	t.Helper()
	checkParse(t, text)
	if got, fault := flow.Parse(text); fault != (api.Fault{}) || !like(got, want) {
		t.Errorf("Parse(%.300q): %v, %v, not %v", text, got, fault, want)
	}
}

// Flows, by hand.

func step(name, duty string, after ...int) api.Step {
	return api.Step{Name: name, Duty: duty, After: after}
}

func between(kind, k int, steps ...int) api.Rule {
	return api.Rule{Kind: kind, K: k, Steps: steps}
}

// draw tells numbers that look drawn and are always the same.
type draw uint64

func (d *draw) below(n int) int {
	*d = *d*6364136223846793005 + 1442695040888963407
	return int(uint64(*d>>33) % uint64(n))
}

// some are numbers below n, rising, at most so many.
func (d *draw) some(n, most int) []int {
	var l []int
	for range d.below(most + 1) {
		l = append(l, d.below(n))
	}
	slices.Sort(l)
	return slices.Compact(l)
}
