package rule_test

import (
	"strconv"
	"strings"
	"testing"

	"provost/api"
	"provost/rule"
)

// P6.6

func wantText(t *testing.T, r api.Rule, names []string, want string, wantErr api.Errno) {
	t.Helper()
	if got, err := rule.Text(r, names); got != want || err != wantErr {
		t.Errorf("Text(%s, %q): %q, %v, not %q, %v", show(r), names, got, err, want, wantErr)
	}
}

// line is Text as the chapter says it, piece by piece.
func line(r api.Rule, names []string) string {
	text := []string{"", "apart", "same", "most", "few", "many"}[r.Kind]
	if r.Kind > api.Same {
		text += " " + strconv.Itoa(r.K) + " of"
	}
	for i, step := range r.Steps {
		if i > 0 {
			text += ","
		}
		text += " " + names[step]
	}
	return text
}

func TestTextOfAllRules(t *testing.T) {
	names := []string{"ask", "sign", "pay", "a-1", "z"}
	for n := range 6 {
		for _, r := range rulesOf(n) {
			wantText(t, r, names[:n], line(r, names), api.OK)
		}
		for _, r := range wrongOf(n) {
			wantText(t, r, names[:n], "", api.ErrArg)
		}
	}
}

func TestTextOfAnyNames(t *testing.T) {
	long := strings.Repeat("x", 70000)
	names := []string{"", "Ann B", "a, b", "\x00\xff", "\n", "ä€", long, ",", " ", "%d", "of", "12"}
	all := []int{0, 1, 2, 3, 4, 5, 6, 7, 8, 9, 10, 11}
	wantText(t, of(api.Apart, 0, all...), names, "apart "+strings.Join(names, ", "), api.OK)
	wantText(t, of(api.Many, 12, all...), names, "many 12 of "+strings.Join(names, ", "), api.OK)
	wantText(t, of(api.Most, 999999999, 3, 5), names, "most 999999999 of \x00\xff, ä€", api.OK)
	wantText(t, of(api.Few, 10, 0), names, "few 10 of ", api.OK)
	wantText(t, of(api.Same, 0, 0, 8), names, "same ,  ", api.OK)
	wantText(t, of(api.Same, 0, 0, 1), make([]string, 2), "same , ", api.OK)
	wantText(t, of(api.Same, 0, 0, 1), []string{"a", "a"}, "same a, a", api.OK)
	wantText(t, of(api.Few, 1, 6), names, "few 1 of "+long, api.OK)
}

// As many names as steps: with too few, none or thirteen it is no rule.
func TestTextOfWrongRulesAndNames(t *testing.T) {
	for _, r := range []api.Rule{of(api.Apart, 0, 0, 1), of(api.Same, 0, 0, 1), of(api.Most, 9, 0, 1), of(api.Few, 9, 0, 1), of(api.Many, 1, 0, 1)} {
		for _, n := range []int{0, 1, 13, 14, 1000} {
			wantText(t, r, make([]string, n), "", api.ErrArg)
		}
		wantText(t, r, nil, "", api.ErrArg)
	}
}
