package flow

import (
	"provost/api"
	"provost/lex"
	"provost/rule"
)

// checkSteps: are there not too many steps, and not none, and may each be one?
func checkSteps(f api.Flow) api.Errno {
	if len(f.Steps) > api.MaxSteps {
		return api.ErrTooBig
	}
	if len(f.Steps) == 0 {
		return api.ErrArg
	}
	for i := range f.Steps {
		if why := checkStep(f, i); why != api.OK {
			return why
		}
	}
	return api.OK
}

// checkStep: may it be the flow's step i?
func checkStep(f api.Flow, i int) api.Errno {
	s := f.Steps[i]
	if !lex.Legal(s.Name) || !lex.Legal(s.Duty) {
		return api.ErrName
	}
	if Find(f, s.Name) < i {
		return api.ErrTwice
	}
	if !rising(s.After, len(f.Steps)) {
		return api.ErrArg
	}
	return api.OK
}

// rising: are they numbers of n steps, each greater than the one before it?
func rising(numbers []int, n int) bool {
	least := 0
	for _, number := range numbers {
		if number < least || number >= n {
			return false
		}
		least = number + 1
	}
	return true
}

// checkRules: are there not too many rules, and may each be one?
func checkRules(f api.Flow) api.Errno {
	if len(f.Rules) > api.MaxRules {
		return api.ErrTooBig
	}
	for _, r := range f.Rules {
		if rule.Check(len(f.Steps), r) != api.OK {
			return api.ErrArg
		}
	}
	return api.OK
}
