package org

import (
	"math/bits"

	"provost/api"
	"provost/lex"
)

// register gives names their numbers, and keeps what is known under them. A
// name keeps its number for ever; what is known under it goes and comes.
type register[T any] struct {
	most    int
	names   []string
	numbers map[string]int
	known   map[int]*T
}

// newRegister is one without names, for at most so many.
func newRegister[T any](most int) register[T] {
	return register[T]{most: most, numbers: map[string]int{}, known: map[int]*T{}}
}

// add makes something known under a name.
func (r *register[T]) add(name string, fresh *T) (int, api.Errno) {
	if !lex.Legal(name) {
		return 0, api.ErrName
	}
	number, numbered := r.numbers[name]
	switch {
	case numbered && r.known[number] != nil:
		return 0, api.ErrTwice
	case !numbered && len(r.names) == r.most:
		return 0, api.ErrTooBig
	case !numbered:
		number = len(r.names)
		r.numbers[name] = number
		r.names = append(r.names, name)
	}
	r.known[number] = fresh
	return number, api.OK
}

// drop makes what has this number unknown, and leaves its name the number.
func (r *register[T]) drop(number int) { delete(r.known, number) }

// find is what is known under a name, and its number; nil, if nothing is.
func (r *register[T]) find(name string) (int, *T) {
	number, numbered := r.numbers[name]
	if !numbered || r.known[number] == nil {
		return 0, nil
	}
	return number, r.known[number]
}

// all is the set of the numbers under which something is known.
func (r *register[T]) all() uint64 {
	var s uint64
	for number := range r.known {
		s |= only(number)
	}
	return s
}

// linked is the set of the known numbers to which a link leads from a number.
func (r *register[T]) linked(from int, has func(from, to int) bool) uint64 {
	var s uint64
	for number := range r.known {
		if has(from, number) {
			s |= only(number)
		}
	}
	return s
}

// list are the names of a set of numbers, by these.
func (r *register[T]) list(s uint64) []string {
	var names []string
	for ; s != 0; s &= s - 1 {
		names = append(names, r.names[lowest(s)])
	}
	return names
}

// lowest is the lowest number of a set that is not empty.
func lowest(s uint64) int { return bits.TrailingZeros64(s) }

// only is the set of one number.
func only(number int) uint64 { return 1 << number }

// in: is the number in the set?
func in(number int, s uint64) bool { return s&only(number) != 0 }
