package lex_test

import (
	"regexp"
	"slices"
	"strconv"
	"strings"
	"testing"

	"provost/api"
	"provost/lex"
)

// The tokens and the names as the chapter's words say them.
var (
	wordAhead   = regexp.MustCompile(`\A[a-z][a-z0-9-]*`)
	numberAhead = regexp.MustCompile(`\A[0-9]+[a-z-]?`)
	aName       = regexp.MustCompile(`\A[a-z][a-z0-9-]{0,23}\z`)
	aNumber     = regexp.MustCompile(`\A(0|[1-9][0-9]{0,8})\z`)
	aMark       = regexp.MustCompile(`\A[,:<>=()]\z`)
)

// scanned is the chapter's Scan, line by line: what stands ahead of a '#' is cut by
// the patterns above, with a plain count of the bytes that have gone.
func scanned(text string) ([]api.Token, api.Fault) {
	if len(text) > 65536 {
		return nil, api.Fault{Why: api.ErrTooBig}
	}
	var l []api.Token
	for i, line := range strings.Split(text, "\n") {
		ahead, _, _ := strings.Cut(line, "#")
		tokens, fault := scannedLine(ahead, i+1)
		if fault.Why != api.OK {
			return nil, fault
		}
		if len(tokens) > 0 {
			l = append(l, tokens...)
			l = append(l, api.Token{Kind: api.Line, Line: i + 1, Col: len(line) + 1})
		}
	}
	return l, api.Fault{}
}

func scannedLine(line string, number int) ([]api.Token, api.Fault) {
	var l []api.Token
	for gone := 0; gone < len(line); {
		if line[gone] == ' ' || line[gone] == '\t' {
			gone++
			continue
		}
		t, why := first(line[gone:])
		t.Line, t.Col = number, gone+1
		if why != api.OK {
			return nil, api.Fault{Why: why, Line: t.Line, Col: t.Col}
		}
		l = append(l, t)
		gone += len(t.Text)
	}
	return l, api.Fault{}
}

// first is the token with which a text begins.
func first(text string) (api.Token, api.Errno) {
	if w := wordAhead.FindString(text); w != "" {
		if !aName.MatchString(w) {
			return api.Token{}, api.ErrName
		}
		return api.Token{Kind: api.Word, Text: w}, api.OK
	}
	if n := numberAhead.FindString(text); n != "" {
		if !aNumber.MatchString(n) {
			return api.Token{}, api.ErrForm
		}
		value, _ := strconv.Atoi(n)
		return api.Token{Kind: api.Number, Text: n, Number: value}, api.OK
	}
	if aMark.MatchString(text[:1]) {
		return api.Token{Kind: api.Mark, Text: text[:1]}, api.OK
	}
	return api.Token{}, api.ErrForm
}

// shown is the chapter's Show: the lines' texts are joined by blanks, and those
// ahead of ',' and ':' taken out again.
func shown(l []api.Token) (string, api.Errno) {
	text, line := "", []string(nil)
	for _, t := range l {
		if !told(t) || t.Kind == api.Line && len(line) == 0 {
			return "", api.ErrForm
		}
		if t.Kind != api.Line {
			line = append(line, t.Text)
			continue
		}
		whole := strings.Join(line, " ") + "\n"
		text, line = text+strings.NewReplacer(" ,", ",", " :", ":").Replace(whole), nil
	}
	if len(line) > 0 {
		return "", api.ErrForm
	}
	return text, api.OK
}

// told: are Kind, Text and Number such as Scan tells?
func told(t api.Token) bool {
	switch t.Kind {
	case api.Word:
		return aName.MatchString(t.Text) && t.Number == 0
	case api.Number:
		return aNumber.MatchString(t.Text) && t.Text == strconv.Itoa(t.Number)
	case api.Mark:
		return aMark.MatchString(t.Text) && t.Number == 0
	}
	return t.Kind == api.Line && t.Text == "" && t.Number == 0
}

// lined are the chapter's Lines: a Line token counts one line on.
func lined(l []api.Token) [][]api.Token {
	lines := [][]api.Token{{}}
	for _, t := range l {
		if t.Kind == api.Line {
			lines = append(lines, nil)
		} else {
			lines[len(lines)-1] = append(lines[len(lines)-1], t)
		}
	}
	if last := len(lines) - 1; len(lines[last]) == 0 {
		lines = lines[:last]
	}
	return lines
}

// checkScan holds Scan against the chapter's words, and what follows of it.
func checkScan(t *testing.T, text string) {
	t.Helper()
	got, fault := lex.Scan(text)
	want, wrong := scanned(text)
	if fault != wrong || !slices.Equal(got, want) {
		t.Fatalf("Scan(%.60q) of %d bytes: %.300v, %v, not %.300v, %v", text, len(text), got, fault, want, wrong)
	}
	if fault.Why != api.OK {
		return
	}
	checkLines(t, got)
	checkShow(t, got)
	checkScanAgain(t, got)
}

// checkScanAgain: Show takes what Scan tells, and Scan tells it again (P5.5).
func checkScanAgain(t *testing.T, l []api.Token) {
	t.Helper()
	text, err := lex.Show(l)
	if err != api.OK {
		t.Fatalf("Show does not take %.300v: %v", l, err)
	}
	again, fault := lex.Scan(text)
	if len(text) > 65536 {
		if len(again) != 0 || fault != (api.Fault{Why: api.ErrTooBig}) {
			t.Fatalf("Scan of %d bytes: %v", len(text), fault)
		}
		return
	}
	if fault != (api.Fault{}) || !slices.Equal(placeless(again), placeless(l)) {
		t.Fatalf("Scan again of %.60q: %.300v, %v, not %.300v", text, again, fault, l)
	}
}

func checkLines(t *testing.T, l []api.Token) {
	t.Helper()
	if got, want := lex.Lines(l), lined(l); !slices.EqualFunc(got, want, slices.Equal) {
		t.Fatalf("Lines of %.300v: %.300v, not %.300v", l, got, want)
	}
}

func checkShow(t *testing.T, l []api.Token) {
	t.Helper()
	got, err := lex.Show(l)
	if want, wrong := shown(l); got != want || err != wrong {
		t.Fatalf("Show of %.300v: %.60q, %v, not %.60q, %v", l, got, err, want, wrong)
	}
}

// placeless are the tokens without their places.
func placeless(l []api.Token) []api.Token {
	l = slices.Clone(l)
	for i := range l {
		l[i].Line, l[i].Col = 0, 0
	}
	return l
}

// Tokens, by hand.

func word(text string) api.Token { return api.Token{Kind: api.Word, Text: text} }

func number(text string, value int) api.Token {
	return api.Token{Kind: api.Number, Text: text, Number: value}
}

func mark(text string) api.Token { return api.Token{Kind: api.Mark, Text: text} }

func end() api.Token { return api.Token{Kind: api.Line} }

func at(t api.Token, line, col int) api.Token {
	t.Line, t.Col = line, col
	return t
}

// row is a list of tokens.
func row(l ...api.Token) []api.Token { return l }

// draw makes numbers by a short rule.
type draw uint64

func (d *draw) below(n int) int {
	*d = *d*6364136223846793005 + 1442695040888963407
	return int(*d >> 33 % draw(n))
}

// text is some of the pieces in a row, at most so many.
func (d *draw) text(pieces []string, most int) string {
	var b strings.Builder
	for range d.below(most + 1) {
		b.WriteString(pieces[d.below(len(pieces))])
	}
	return b.String()
}

// sound are pieces of texts in which nothing is wrong, where they stand apart.
func sound() []string {
	return []string{
		"a", "z", "step", "a-1", "a--", "b9-", strings.Repeat("q", 24), "0", "7", "10", "999999999", "100000000",
		",", ":", "<", ">", "=", "(", ")", " ", "\t", "  ", " ", "\n", "\n", "\n\n", "#", "# x\n", "#A\xff\r\x00 012 ##\n", "\n \t\n",
	}
}

// faulty are pieces that have a fault, wherever they stand but in a remark or
// right behind a letter.
func faulty() []string {
	return []string{
		"A", "\r", "\x00", "\x7f", "\x80", "\xff", "é", "-", "-a", "+", ";", ".", "_", "/", "@", "[", "`", "{", "|", "\"",
		"00", "01", "012", "1234567890", "0000000000", "12a", "1-", "0a", "9z9", "1a,", strings.Repeat("a", 25), "b" + strings.Repeat("-", 24), "c" + strings.Repeat("0", 300),
	}
}
