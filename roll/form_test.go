package roll_test

import (
	"slices"
	"strings"
	"testing"

	"provost/api"
	"provost/lex"
	"provost/roll"
)

// P10.1, P10.2: what is a text, and where it is none.

// texts are organisations of all kinds of lines, and such as have the words that begin
// lines or stand within them for names.
var texts = []string{
	"org 1\nend",
	clerks,
	full,
	"org 999999998\nrole end\nuser end\njoin end of end\nuser until\nlend until, end until 999999999\nend\n",
	"org 2\nuser user\nrole role\nuser join\nrole over\nuser lend\njoin join of role\nover over, role\ngrant over, grant\nbar user, bar\nlend lend, join until 3\nrest join\nrest user\nend",
	"org 1\nuser of\nrole of\njoin of of of\ngrant of, of\nbar of, of\nrest of\nend\n",
}

func TestWordsOfLinesAreNames(t *testing.T) {
	for _, a := range words {
		for _, b := range words {
			if a == b {
				continue
			}
			text := "org 1\nuser " + a + "\nuser " + b + "\nrole " + a + "\nrole " + b + "\njoin " + a + " of " + b + "\nover " + b + ", " + a + "\ngrant " + a + ", " + b + "\nbar " + b + ", " + a + "\nlend " + a + ", " + b + " until 2\nrest " + b + "\nend\n"
			wantPrint(t, text, text)
		}
	}
}

var words = strings.Fields("org user role join of over grant bar lend until rest end a")

// pieces are tokens of all kinds, as a text has them.
var pieces = append(slices.Clone(words), "zz", "0", "7", "999999999", ",", ":", "(", "\n")

// tokensOf are the texts of a text's tokens, with the ends of its lines.
func tokensOf(text string) []string {
	l, _ := lex.Scan(text)
	var pieces []string
	for _, t := range l {
		if t.Kind == api.Line {
			pieces = append(pieces, "\n")
		} else {
			pieces = append(pieces, t.Text)
		}
	}
	return pieces
}

func TestTextsAreTexts(t *testing.T) {
	for _, text := range texts {
		if fault := checkParse(t, text); fault.Why != api.OK {
			t.Errorf("Parse(%q): %v", text, fault)
		}
	}
}

// Of a text that only ends too early, the fault is at its last token.
func TestTextsCutBehindEachToken(t *testing.T) {
	for _, text := range texts {
		l := tokensOf(text)
		for i := range len(l) - 1 {
			cut := strings.Join(l[:i], " ")
			var last api.Token
			if tokens, _ := lex.Scan(cut); len(tokens) > 0 {
				last = tokens[len(tokens)-1]
			}
			if fault := checkParse(t, cut); fault != at(api.ErrForm, last) {
				t.Errorf("Parse(%q): %v, not at %v", cut, fault, last)
			}
		}
	}
}

func TestTextsWithOneTokenChanged(t *testing.T) {
	for _, text := range texts {
		l := tokensOf(text)
		for i := range l {
			ahead, behind := strings.Join(l[:i], " "), strings.Join(l[i+1:], " ")
			checkParse(t, ahead+" "+behind)
			for _, p := range pieces {
				checkParse(t, ahead+" "+p+" "+behind)
				checkParse(t, ahead+" "+p+" "+l[i]+" "+behind)
			}
		}
	}
}

// TestTextsThatGrow adds every piece to each beginning with which a text goes on.
func TestTextsThatGrow(t *testing.T) {
	grown := []string{"", "org 1\n", "org 1\nuser a\nrole a\n"}
	for range 5 {
		var next []string
		for _, beginning := range grown {
			for _, p := range []string{"org", "user", "join", "of", "over", "lend", "until", "end", "a", "1", ",", "=", "\n"} {
				checkParse(t, beginning+" "+p)
				if growing(beginning + " " + p) {
					next = append(next, beginning+" "+p)
				}
			}
		}
		grown = next
	}
	if len(grown) < 500 {
		t.Error("only", len(grown), "beginnings")
	}
}

// growing: is it the beginning of a text? (The end of its last line may be still to come.)
func growing(text string) bool {
	l, _ := lex.Scan(text)
	if !strings.HasSuffix(text, "\n") {
		l = l[:len(l)-1]
	}
	return goesOn(l)
}

func TestLinesOfNoForm(t *testing.T) {
	for line, want := range map[string]string{
		"user":                  "2:5",
		"user 1":                "2:6",
		"user a b":              "2:8",
		"user a, b":             "2:7",
		"role":                  "2:5",
		"role ,":                "2:6",
		"role a a":              "2:8",
		"join":                  "2:5",
		"join a":                "2:7",
		"join a of":             "2:10",
		"join a b":              "2:8",
		"join a, b":             "2:7",
		"join a of 1":           "2:11",
		"join a of b c":         "2:13",
		"join a of of of":       "2:14",
		"join 1 of b":           "2:6",
		"over":                  "2:5",
		"over a":                "2:7",
		"over a,":               "2:8",
		"over a of b":           "2:8",
		"over a b":              "2:8",
		"over a, b, c":          "2:10",
		"over a: b":             "2:7",
		"grant":                 "2:6",
		"grant a":               "2:8",
		"grant a,":              "2:9",
		"grant a, 1":            "2:10",
		"grant , a":             "2:7",
		"grant a, b, c":         "2:11",
		"bar":                   "2:4",
		"bar a":                 "2:6",
		"bar a,":                "2:7",
		"bar a of b":            "2:7",
		"bar a, b c":            "2:10",
		"lend":                  "2:5",
		"lend a":                "2:7",
		"lend a,":               "2:8",
		"lend a, b":             "2:10",
		"lend a, b until":       "2:16",
		"lend a, b until until": "2:17",
		"lend a, b until c":     "2:17",
		"lend a, b till 9":      "2:11",
		"lend a, b 9":           "2:11",
		"lend a, b until 9 9":   "2:19",
		"lend a of b until 9":   "2:8",
		"rest":                  "2:5",
		"rest 7":                "2:6",
		"rest a, b":             "2:7",
		"org 1":                 "2:1",
		"of":                    "2:1",
		"until 9":               "2:1",
		"fire a":                "2:1",
		", user a":              "2:1",
		"1":                     "2:1",
		"( user a":              "2:1",
		"end a":                 "2:5",
		"end end":               "2:5",
		"end 1":                 "2:5",
		"end ,":                 "2:5",
		"end\nend":              "3:1",
		"end\nuser a":           "3:1",
		"end\n7":                "3:1",
		"end\n:":                "3:1",
		"end\norg 1\nend":       "3:1",
	} {
		wantFault(t, "org 1\n"+line+"\nuser c\nend\n", "malformed "+want)
		wantFault(t, "org 0\n"+line+"\nuser c\nuser c\nend\n", "malformed "+want)
	}
}

func TestFirstAndLastLines(t *testing.T) {
	wantFault(t, "org", "malformed 1:4")
	wantFault(t, "org\n", "malformed 1:4")
	wantFault(t, "org a", "malformed 1:5")
	wantFault(t, "org ,", "malformed 1:5")
	wantFault(t, "org 1 1", "malformed 1:7")
	wantFault(t, "org 1 end", "malformed 1:7")
	wantFault(t, "org 1", "malformed 1:6")
	wantFault(t, "org 1\n\n# end\n", "malformed 1:6")
	wantFault(t, "org 1\nuser a # b", "malformed 2:11")
	wantFault(t, "end", "malformed 1:1")
	wantFault(t, "user a\norg 1\nend", "malformed 1:1")
	wantFault(t, "1\nend", "malformed 1:1")
	wantFault(t, ",", "malformed 1:1")
	wantFault(t, "\n  or 1", "malformed 2:3")
	wantFault(t, "\n\n  # nothing", "malformed 0:0")
	wantFault(t, "\n\t# who\n org 1\n\n\tend# the end\n\n  \n#", "ok 0:0")
}

func TestBlanksAndRemarks(t *testing.T) {
	loose := "# all\n\n\torg  7 # now\n user ann\n\nuser\tbob\n# cyd\nuser cyd\nrole boss\nrole clerk\njoin ann of boss\njoin ann  of clerk\njoin bob of clerk\nover boss,clerk\ngrant boss ,sign\ngrant clerk  ,  ask\nbar bob, ask\nbar bob,sign#\nlend bob,cyd until 8\nlend ann ,bob until 9\nrest bob\n  rest cyd  \nend # of it"
	wantPrint(t, loose, full)
}

// P10.2: what Scan tells comes first, wherever it is.
func TestTextsThatScanRefuses(t *testing.T) {
	for _, text := range append([]string{"", "end end", "org 0\nend\n", "org 1\nuser a\nuser a\nend\n"}, texts...) {
		for _, wrong := range []string{"A", "012", "12a", "1234567890", "\r", "\x00", "é", strings.Repeat("a", 25), strings.Repeat(" ", 65537)} {
			for _, both := range []string{text + " " + wrong, wrong + " " + text, text + "\n" + wrong} {
				_, want := lex.Scan(both)
				if fault := checkParse(t, both); fault != want || want.Why == api.OK {
					t.Errorf("Parse(%.60q): %v, not %v", both, fault, want)
				}
			}
		}
	}
	wantFault(t, "org 01\nend", "malformed 1:5")
	wantFault(t, "org 1000000000\nend", "malformed 1:5")
	wantFault(t, "org 1\nuser "+strings.Repeat("z", 25)+"\nend", "bad name 2:6")
}

func TestNamesOfTwentyFourBytes(t *testing.T) {
	a, b := strings.Repeat("z", 24), "a-0123456789-0123456789-"
	text := "org 1\nuser " + a + "\nuser " + b + "\nrole " + b + "\nrole " + a + "\njoin " + a + " of " + b + "\nover " + a + ", " + b + "\ngrant " + b + ", " + b + "\nbar " + a + ", " + a + "\nlend " + b + ", " + a + " until 999999999\nrest " + b + "\nend\n"
	wantPrint(t, text, text)
}

// Texts as long as one may be, and one byte longer.
func TestLongTexts(t *testing.T) {
	long := full + strings.Repeat("#", 65536-len(full))
	wantPrint(t, long, full)
	wantFault(t, long+"#", "too big 0:0")
	wantFault(t, strings.Repeat("#", 65536), "malformed 0:0")
	wantFault(t, strings.Repeat("#", 65537), "too big 0:0")
	wantFault(t, "org 0\n"+strings.Repeat("\n", 65536), "too big 0:0")
}

// Very many lines, which are gone through one by one.
func TestManyLines(t *testing.T) {
	head := "org 1\nuser a\n"
	lines := (65536 - len(head) - 3) / 7
	for ending, want := range map[string]api.Fault{
		"end": {Why: api.ErrTwice, Line: 4, Col: 1},
		"":    {Why: api.ErrForm, Line: lines + 2, Col: 7},
		"7":   {Why: api.ErrForm, Line: lines + 3, Col: 1},
	} {
		if o, fault := roll.Parse(head + strings.Repeat("rest a\n", lines) + ending); o != nil || fault != want {
			t.Errorf("with %q at the end: %v, not %v", ending, fault, want)
		}
	}
}
