package rule

import "provost/api"

// counted is what a rule's meaning hangs on: K, how often the commonest label of
// its Steps stands, how many unlike ones there are, and how many Steps have none yet.
type counted struct {
	k, most, unlike, open int
}

// meaning: can the Steps that have no label yet be given some by which the rule
// is kept? One that stands nowhere else can always be found.
type meaning func(counted) bool

// meanings are those of the kinds, each at its kind's number.
func meanings() [api.Many + 1]meaning {
	return [api.Many + 1]meaning{
		api.Apart: counted.apart,
		api.Same:  counted.same,
		api.Most:  counted.atMost,
		api.Few:   counted.few,
		api.Many:  counted.many,
	}
}

func (c counted) apart() bool { return c.most <= 1 }

func (c counted) same() bool { return c.unlike <= 1 }

func (c counted) atMost() bool { return c.most <= c.k }

func (c counted) few() bool { return c.unlike <= c.k }

func (c counted) many() bool { return c.unlike+c.open >= c.k }

// count goes through the Steps of a rule that Check takes; those behind the
// labels that there are stand open.
func count(r api.Rule, labels []int) counted {
	c := counted{k: r.K}
	for i, step := range r.Steps {
		if step >= len(labels) {
			c.open++
			continue
		}
		times := 1 + timesOf(labels[step], r.Steps[:i], labels)
		if times == 1 {
			c.unlike++
		}
		c.most = max(c.most, times)
	}
	return c
}

// timesOf is how often the label stands at the steps.
func timesOf(label int, steps, labels []int) int {
	times := 0
	for _, step := range steps {
		if labels[step] == label {
			times++
		}
	}
	return times
}
