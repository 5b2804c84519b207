package roll

import (
	"strconv"
	"strings"

	"provost/api"
)

// writer writes lines one behind the other.
type writer struct {
	text strings.Builder
}

func (w *writer) line(parts ...string) {
	for _, part := range parts {
		w.text.WriteString(part)
	}
	w.text.WriteByte('\n')
}

// each writes a line for each name.
func (w *writer) each(head string, names []string) {
	for _, name := range names {
		w.line(head, name)
	}
}

// pairs writes, name by name, a line for each that it has.
func (w *writer) pairs(head string, names []string, between string, has func(name string) []string) {
	for _, name := range names {
		for _, other := range has(name) {
			w.line(head, name, between, other)
		}
	}
}

func (w *writer) loans(loans []api.Loan) {
	for _, l := range loans {
		w.line("lend ", l.From, ", ", l.To, " until ", strconv.Itoa(l.Until))
	}
}

// those are the names that are so.
func those(names []string, so func(name string) bool) []string {
	var some []string
	for _, name := range names {
		if so(name) {
			some = append(some, name)
		}
	}
	return some
}
