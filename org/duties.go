package org

import (
	"maps"
	"slices"

	"provost/api"
	"provost/lex"
)

// duties are a set of duties.
type duties map[string]struct{}

// add puts a duty in.
func (d duties) add(duty string) api.Errno {
	if !lex.Legal(duty) {
		return api.ErrName
	}
	if d.has(duty) {
		return api.ErrTwice
	}
	d[duty] = struct{}{}
	return api.OK
}

// take takes a duty out.
func (d duties) take(duty string) api.Errno {
	if !d.has(duty) {
		return api.ErrLink
	}
	delete(d, duty)
	return api.OK
}

// has: is the duty in it?
func (d duties) has(duty string) bool {
	_, is := d[duty]
	return is
}

// list are the duties, rising by their bytes.
func (d duties) list() []string { return slices.Sorted(maps.Keys(d)) }
