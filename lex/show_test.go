package lex_test

import (
	"math"
	"slices"
	"strconv"
	"strings"
	"testing"

	"provost/api"
	"provost/lex"
)

// odd are tokens that Scan never tells.
func odd() []api.Token {
	l := []api.Token{{}, {Kind: 5}, {Kind: -1}, {Kind: 5, Text: "a"}, {Kind: 0, Text: "a"}, {Kind: math.MaxInt, Text: ","}, {Kind: math.MinInt}, {Kind: 0, Text: "\n"}}
	for _, text := range []string{"", "A", "-a", "1", "1a", "a b", " a", "a ", "a\n", "a#", "#a", "a,", ",", "\n", "é", "a\x00", strings.Repeat("a", 25), strings.Repeat("b", 70000)} {
		l = append(l, word(text))
	}
	for _, text := range []string{"", "+1", "-1", "-0", "07", "00", " 7", "7 ", "7\n", "7#", "7a", "7-", "7,", "a", ",", "0x7", "1_0", "1234567890", "4294967303", "18446744073709551623", strings.Repeat("7", 70000)} {
		value, _ := strconv.Atoi(strings.Trim(text, " \n#a-,"))
		l = append(l, number(text, 0), number(text, 7), number(text, value))
	}
	for _, text := range []string{"", "+", "()", ",,", ", ", " ,", ",\n", ",#", "a", "1", "-", "#", " ", "\t", "\n", "\r", "::", "<=", "\xff"} {
		l = append(l, mark(text))
	}
	for _, text := range []string{"\n", " ", "a", ",", "#"} {
		l = append(l, api.Token{Kind: api.Line, Text: text})
	}
	for _, n := range []int{1, -1, 7, math.MaxInt, math.MinInt} { // a Number in what is none
		for _, t := range row(word("a"), mark(","), end()) {
			t.Number = n
			l = append(l, t)
		}
	}
	return append(l, number("0", 1), number("0", -1), number("7", 8), number("7", -7), number("7", 0), number("70", 7), number("7", 7+1<<32), number("999999999", 999999998), number("10", 1))
}

// even are tokens that Scan tells, but for Line ones.
func even() []api.Token {
	l := row(word("a"), word("z"), word("a-1"), word("b--"), word(strings.Repeat("w", 24)), number("0", 0), number("7", 7), number("10", 10), number("999999999", 999999999))
	for _, c := range ",:<>=()" {
		l = append(l, mark(string(c)))
	}
	return l
}

// P5.4

func TestShowOfEachWrongToken(t *testing.T) {
	for _, x := range odd() {
		if told(x) {
			t.Fatalf("%v is no odd token", x)
		}
		wantNoShow(t, x)
		wantNoShow(t, x, end())
		wantNoShow(t, word("b"), x, end())
		wantNoShow(t, word("b"), x)
		wantNoShow(t, x, word("b"), end())
		wantNoShow(t, word("b"), end(), x, end())
		wantNoShow(t, word("b"), end(), x)
	}
}

func TestShowOfEachToken(t *testing.T) {
	for _, x := range even() {
		wantShow(t, x.Text+"\n", x, end())
		wantNoShow(t, x)
		for _, y := range even() {
			between := " "
			if y.Text == "," || y.Text == ":" {
				between = ""
			}
			wantShow(t, x.Text+between+y.Text+"\n", x, y, end())
			wantShow(t, x.Text+"\n"+y.Text+"\n", x, end(), y, end())
			wantNoShow(t, x, end(), y)
			wantNoShow(t, x, y)
		}
	}
}

func TestShowOfEachByte(t *testing.T) {
	for b := range 256 {
		c := string([]byte{byte(b)})
		for _, kind := range []int{-1, 0, api.Word, api.Number, api.Mark, api.Line, 5} {
			for _, text := range []string{c, "a" + c, "1" + c, "," + c} {
				for _, n := range []int{0, 1, b - '0', 10 + b - '0'} {
					checkShow(t, row(api.Token{Kind: kind, Text: text, Number: n}, end()))
				}
			}
		}
	}
}

func TestShowOfLineTokens(t *testing.T) {
	a := word("a")
	wantShow(t, "")
	wantNoShow(t, end())
	wantNoShow(t, end(), end())
	wantNoShow(t, end(), a, end())
	wantNoShow(t, a, end(), end())
	wantNoShow(t, a, end(), end(), a, end())
	wantNoShow(t, a, end(), a)
	wantNoShow(t, a, a)
	wantShow(t, "a\na\n", a, end(), a, end())
}

// All rows of up to six tokens: a Word, a ',', a Number, a Line, one that is odd.
func TestAllShortRows(t *testing.T) {
	rows := [][]api.Token{nil}
	for range 6 {
		var longer [][]api.Token
		for _, l := range rows {
			checkShow(t, l)
			checkLines(t, l)
			for _, x := range row(word("a"), mark(","), number("10", 10), end(), api.Token{Kind: 7, Text: "?"}) {
				longer = append(longer, append(slices.Clone(l), x))
			}
		}
		rows = longer
	}
}

func TestShowLooksAtNoPlaces(t *testing.T) {
	for _, line := range []int{math.MinInt, -1, 0, 1, 7, math.MaxInt} {
		for _, col := range []int{math.MinInt, -1, 0, 1, 7, math.MaxInt} {
			wantShow(t, "a, 1\nb:\n", at(word("a"), line, col), at(mark(","), col, line), at(number("1", 1), line, line), at(end(), col, col),
				at(word("b"), line, 3), at(mark(":"), 2, col), at(end(), line, col))
			wantNoShow(t, at(word("A"), line, col), end())
			wantNoShow(t, at(word("a"), line, col))
		}
	}
}

// Show may tell more than a text may be.
func TestShowOfManyTokens(t *testing.T) {
	var l []api.Token
	for range 100000 {
		l = append(l, word("abc"), mark("<"), end())
	}
	wantLong := strings.Repeat("abc <\n", 100000)
	if got, err := lex.Show(l); got != wantLong || err != api.OK {
		t.Errorf("%d bytes, %v", len(got), err)
	}
	if got, err := lex.Show(append(l, mark("<"))); got != "" || err != api.ErrForm {
		t.Errorf("%d bytes, %v", len(got), err)
	}
}

// P5.5, and rows that are nearly such as Scan tells.
func TestShowOfManyRows(t *testing.T) {
	d := draw(3)
	good, wrong := even(), odd()
	oks := 0
	for i := range 5000 {
		var l []api.Token
		for range d.below(20) {
			switch k := d.below(20); {
			case k < 14:
				l = append(l, good[d.below(len(good))])
			case k < 19 || i%2 == 0:
				l = append(l, end())
			default:
				l = append(l, wrong[d.below(len(wrong))])
			}
			l[len(l)-1].Line, l[len(l)-1].Col = d.below(9)-4, d.below(9)-4
		}
		checkShow(t, l)
		checkLines(t, l)
		tidy := slices.DeleteFunc(l, func(x api.Token) bool { return !told(x) })
		tidy = slices.CompactFunc(append(tidy, end()), func(x, y api.Token) bool { return x.Kind == api.Line && y.Kind == api.Line })
		if tidy[0].Kind == api.Line {
			tidy = tidy[1:]
		}
		checkScanAgain(t, tidy)
		if len(tidy) > 0 {
			oks++
		}
	}
	if oks < 3000 {
		t.Error("only", oks, "rows have tokens")
	}
}

// P5.3

func TestLinesByHand(t *testing.T) {
	a, b, x := at(word("a"), 4, 2), at(number("7", 8), -1, 0), api.Token{Kind: 9, Text: "\n", Number: -3}
	e, odd := end(), api.Token{Kind: api.Line, Text: "?", Number: 5, Line: 3}
	for _, c := range []struct {
		l    []api.Token
		want [][]api.Token
	}{
		{row(), nil},
		{row(a), [][]api.Token{{a}}},
		{row(e), [][]api.Token{{}}},
		{row(e, odd), [][]api.Token{{}, {}}},
		{row(e, a), [][]api.Token{{}, {a}}},
		{row(a, odd), [][]api.Token{{a}}},
		{row(a, b, e, x), [][]api.Token{{a, b}, {x}}},
		{row(e, e, a, x, odd, b), [][]api.Token{{}, {}, {a, x}, {b}}},
		{row(x, e, e, e), [][]api.Token{{x}, {}, {}}},
	} {
		if got := lex.Lines(c.l); !slices.EqualFunc(got, c.want, slices.Equal) {
			t.Errorf("Lines of %v: %v, not %v", c.l, got, c.want)
		}
	}
}

// Only the Kinds are looked at.
func TestLinesOfAnyTokens(t *testing.T) {
	for _, kind := range []int{math.MinInt, -1, 0, api.Word, api.Number, api.Mark, 5, math.MaxInt} {
		for _, text := range []string{"", "\n", "a", "#"} {
			x := api.Token{Kind: kind, Text: text, Number: 3, Line: 1, Col: -7}
			checkLines(t, row(x))
			checkLines(t, row(x, end(), end(), x, x, end(), x))
			if got := lex.Lines(row(x, x, end(), x)); len(got) != 2 || len(got[0]) != 2 || got[1][0] != x {
				t.Errorf("of Kind %d: %v", kind, got)
			}
		}
	}
}

// R2

func TestTokensThatAreHandedInStay(t *testing.T) {
	mark := api.Token{Kind: 77, Text: "room"}
	for _, text := range []string{"step a-1 after b, c", "a\nb\n1: 2", "a", ""} {
		scan, _ := lex.Scan(text)
		for _, l := range [][]api.Token{scan, append(slices.Clone(scan), end()), append(slices.Clone(scan), word("A"), end())} {
			whole := append(slices.Clone(l), mark, mark, mark)
			handed := slices.Clone(whole)
			lines := lex.Lines(handed[:len(l)])
			lex.Show(handed[:len(l)])
			if !slices.Equal(handed, whole) {
				t.Errorf("%v has become %v", whole, handed)
			}
			spoil(handed, mark)
			if !slices.EqualFunc(lines, lined(l), slices.Equal) {
				t.Errorf("Lines keeps what it was given: %v", lines)
			}
		}
	}
}

func TestLinesThatAreToldAreTheCallersOwn(t *testing.T) {
	l, _ := lex.Scan("a b c\nd, e\nf\n1 2 3 4 5\n\ng")
	l = append(l, end(), word("h"), word("i"), end(), end())
	was := slices.Clone(l)
	want := lined(l)
	one, two := lex.Lines(l), lex.Lines(l)
	for i := range one { // one by one: the others stay
		if !slices.Equal(one[i], want[i]) {
			t.Errorf("line %d: %v, not %v", i, one[i], want[i])
		}
		spoil(one[i], word("spoilt"))
	}
	spoil(one, nil)
	if !slices.EqualFunc(two, want, slices.Equal) || !slices.Equal(l, was) {
		t.Errorf("%v, of %v", two, l)
	}
}
