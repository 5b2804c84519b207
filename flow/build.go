package flow

import (
	"slices"

	"provost/api"
	"provost/rule"
)

// builder makes a flow of lines.
type builder struct {
	flow  api.Flow
	rules int // how many lines of rules it has gone past
}

// laySteps lays the steps, and sees that neither they nor the rules are too many.
func (b *builder) laySteps(lines []line) {
	for _, l := range lines {
		if l.kind == 0 {
			b.layStep(l)
			continue
		}
		if b.rules == api.MaxRules {
			giveUp(api.ErrTooBig, l.head)
		}
		b.rules++
	}
}

func (b *builder) layStep(l line) {
	if len(b.flow.Steps) == api.MaxSteps {
		giveUp(api.ErrTooBig, l.name)
	}
	if Find(b.flow, l.name.Text) >= 0 {
		giveUp(api.ErrTwice, l.name)
	}
	b.flow.Steps = append(b.flow.Steps, api.Step{Name: l.name.Text, Duty: l.duty.Text})
}

// layLists lays what comes ahead of the steps, and the rules.
func (b *builder) layLists(lines []line) {
	for _, l := range lines {
		numbers := b.numbers(l.list)
		if l.kind == 0 {
			b.flow.Steps[Find(b.flow, l.name.Text)].After = numbers
			continue
		}
		r := api.Rule{Kind: l.kind, K: l.k, Steps: numbers}
		if rule.Check(len(b.flow.Steps), r) != api.OK {
			giveUp(api.ErrArg, l.head)
		}
		b.flow.Rules = append(b.flow.Rules, r)
	}
}

// numbers are those of a LIST's steps, rising.
func (b *builder) numbers(list []api.Token) []int {
	var numbers []int
	for _, name := range list {
		number := Find(b.flow, name.Text)
		if number < 0 {
			giveUp(api.ErrStep, name)
		}
		if slices.Contains(numbers, number) {
			giveUp(api.ErrTwice, name)
		}
		numbers = append(numbers, number)
	}
	slices.Sort(numbers)
	return numbers
}

// lookAtWhole sees, at the `end` of the text, that all of it is a flow.
func (b *builder) lookAtWhole(end api.Token) {
	if len(b.flow.Steps) == 0 {
		giveUp(api.ErrForm, end)
	}
	if _, why := orderOf(b.flow.Steps); why != api.OK {
		giveUp(api.ErrCycle, end)
	}
}
