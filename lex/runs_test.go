package lex_test

import (
	"slices"
	"strings"
	"testing"

	"provost/api"
	"provost/lex"
)

// The chapter's runs and examples, by hand.

func wantScan(t *testing.T, text string, want ...api.Token) []api.Token {
	t.Helper()
	l, fault := lex.Scan(text)
	if fault != (api.Fault{}) || !slices.Equal(l, want) {
		t.Errorf("Scan(%q): %v, %v, not %v", text, l, fault, want)
	}
	return l
}

func wantFault(t *testing.T, text string, why api.Errno, line, col int) {
	t.Helper()
	l, fault := lex.Scan(text)
	if want := (api.Fault{Why: why, Line: line, Col: col}); len(l) != 0 || fault != want {
		t.Errorf("Scan(%.60q): %.300v, %v, not %v", text, l, fault, want)
	}
}

func wantShow(t *testing.T, want string, l ...api.Token) {
	t.Helper()
	if got, err := lex.Show(l); got != want || err != api.OK {
		t.Errorf("Show of %v: %q, %v, not %q", l, got, err, want)
	}
}

func wantNoShow(t *testing.T, l ...api.Token) {
	t.Helper()
	if got, err := lex.Show(l); got != "" || err != api.ErrForm {
		t.Errorf("Show of %v: %q, %v", l, got, err)
	}
}

func TestRunsOfTokens(t *testing.T) {
	l := wantScan(t, "step a-1 after b, c", at(word("step"), 1, 1), at(word("a-1"), 1, 6), at(word("after"), 1, 10),
		at(word("b"), 1, 16), at(mark(","), 1, 17), at(word("c"), 1, 19), at(end(), 1, 20))
	wantShow(t, "step a-1 after b, c\n", l...)
	l = wantScan(t, "\n# x\n  12:0 \n", at(number("12", 12), 3, 3), at(mark(":"), 3, 5), at(number("0", 0), 3, 6), at(end(), 3, 8))
	if got := lex.Lines(l); len(got) != 1 || !slices.Equal(got[0], l[:3]) {
		t.Error("Lines:", got)
	}
	if got := lex.Lines(nil); len(got) != 0 {
		t.Error("Lines of none:", got)
	}
	for _, text := range []string{"", "#", " \n\n"} {
		wantScan(t, text)
	}
	name := strings.Repeat("a", 24)
	wantScan(t, name, at(word(name), 1, 1), at(end(), 1, 25))
}

func TestRunsOfFaults(t *testing.T) {
	wantFault(t, "a\n 012", api.ErrForm, 2, 2)
	wantFault(t, "12a", api.ErrForm, 1, 1)
	wantFault(t, "1234567890", api.ErrForm, 1, 1)
	wantFault(t, "1-", api.ErrForm, 1, 1)
	wantFault(t, "A", api.ErrForm, 1, 1)
	wantFault(t, "a\r\n", api.ErrForm, 1, 2)
	wantFault(t, strings.Repeat("a", 25), api.ErrName, 1, 1)
}

func TestRunsOfShow(t *testing.T) {
	wantNoShow(t, word("A"), end())
	wantNoShow(t, word("A"))
	wantNoShow(t, end())
	wantNoShow(t, word("a"))
	wantNoShow(t, number("07", 7), end())
	wantNoShow(t, number("07", 7))
}

func TestExamples(t *testing.T) {
	for _, name := range []string{"a-", "a--b"} {
		if !lex.Legal(name) {
			t.Errorf("%q is no name", name)
		}
	}
	for _, name := range []string{"-a", "1a", ""} {
		if lex.Legal(name) {
			t.Errorf("%q is a name", name)
		}
	}
	close, _ := lex.Scan("a,b")
	wide, _ := lex.Scan("a , b")
	if want := row(word("a"), mark(","), word("b"), end()); !slices.Equal(placeless(close), want) || !slices.Equal(placeless(wide), want) {
		t.Error(close, wide)
	}
}

// P5.1

func TestNamesByTheirLength(t *testing.T) {
	for _, letter := range []string{"a", "z"} {
		for _, more := range []string{"a", "z", "0", "9", "-"} {
			for n := range 200 {
				name := letter + strings.Repeat(more, n)
				if lex.Legal(name) != (n < 24) {
					t.Errorf("Legal(%q), of %d bytes: %v", name, n+1, n >= 24)
				}
			}
		}
	}
	if lex.Legal("") || lex.Legal(strings.Repeat("a", 1<<20)) || !lex.Legal(strings.Repeat("a", 24)) || lex.Legal(strings.Repeat("a", 25)) {
		t.Error("names of 0, 24, 25 and many bytes")
	}
}

func TestNamesByEachByte(t *testing.T) {
	for b := range 256 {
		c := string([]byte{byte(b)})
		letter := b >= 'a' && b <= 'z'
		inName := letter || b >= '0' && b <= '9' || b == '-'
		for _, behind := range []string{"", "a", "-9z"} {
			if lex.Legal(c+behind) != letter {
				t.Errorf("Legal(%q): %v", c+behind, !letter)
			}
		}
		for i := 1; i < 24; i++ { // behind, each place among 24
			name := strings.Repeat("a", i) + c + strings.Repeat("b", 23-i)
			if lex.Legal(name) != inName || lex.Legal(name[:i+1]) != inName {
				t.Errorf("Legal(%q), or of its first %d bytes: %v", name, i+1, !inName)
			}
		}
	}
}

// A name is legal just if it is a Word as Scan tells them.
func TestNamesAreWords(t *testing.T) {
	for _, name := range append(sound(), faulty()...) {
		l, _ := lex.Scan(name)
		is := len(l) == 2 && l[0].Kind == api.Word && l[0].Text == name
		if lex.Legal(name) != is || lex.Legal(name) != aName.MatchString(name) {
			t.Errorf("Legal(%q): %v", name, !is)
		}
	}
}
