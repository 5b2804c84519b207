package flow_test

import (
	"slices"
	"strings"
	"testing"

	"provost/api"
	"provost/flow"
	"provost/lex"
)

// P7.1, P7.2: what is a text, and where it is none.

// texts are flows of all kinds of lines, and such as have the words that begin lines
// or stand within them for names.
var texts = []string{
	pay,
	"flow flow\nstep step needs needs after end\nstep end\nmost 1 of end, step\nend",
	"flow end\nstep after after of\nstep of needs of\nstep needs\nmany 2 of of, after\nfew 1 of needs\nsame after, needs, of\nend\n",
	"flow f\nmany 2 of c, a\nstep a\nstep b after a, c\nstep c\nsame b, a\nfew 7 of a\nend\n",
	"flow apart\nstep apart\nstep same after apart, most, few\nstep most\nstep few\nstep many\nstep flow needs flow\napart apart, same\nsame most, many\nend\n",
	"flow f\nstep needs needs after after after\nstep after needs needs\nend\n",
}

func TestWordsOfLinesAreNames(t *testing.T) {
	for _, text := range texts {
		if fault := checkParse(t, text); fault.Why != api.OK {
			t.Errorf("Parse(%q): %v", text, fault)
		}
	}
	for _, a := range words {
		for _, b := range words {
			if a == b {
				continue
			}
			text := "flow " + a + "\nstep " + a + " needs " + b + " after " + b + "\nstep " + b + "\napart " + b + ", " + a + "\nmost 1 of " + a + "\nend\n"
			wantFlow(t, text, api.Flow{
				Name:  a,
				Steps: []api.Step{step(a, b, 1), step(b, b)},
				Rules: []api.Rule{between(api.Apart, 0, 0, 1), between(api.Most, 1, 0)},
			})
		}
	}
}

var words = strings.Fields("flow step end needs after of apart same most few many a")

// pieces are tokens of all kinds, as a text has them.
var pieces = append(slices.Clone(words), "zz", "0", "7", "999999999", ",", ":", "(", "\n")

// tokensOf are the texts of a text's tokens, with the ends of its lines.
func tokensOf(text string) []string {
	l, _ := lex.Scan(text)
	var pieces []string
	for _, t := range l {
		if t.Kind == api.Line {
			pieces = append(pieces, "\n")
		} else {
			pieces = append(pieces, t.Text)
		}
	}
	return pieces
}

func TestTextsCutBehindEachToken(t *testing.T) {
	for _, text := range texts {
		l := tokensOf(text)
		for i := range len(l) {
			cut := strings.Join(l[:i], " ")
			if fault := checkParse(t, cut); i < len(l)-1 && fault.Why != api.ErrForm {
				t.Errorf("Parse(%q): %v", cut, fault)
			}
			if i < len(l)-1 {
				checkEnd(t, cut)
			}
		}
	}
}

// checkEnd: of a text that only ends too early, the fault is at its last token.
func checkEnd(t *testing.T, cut string) {
	t.Helper()
	l, _ := lex.Scan(cut)
	_, fault := flow.Parse(cut)
	if len(l) > 0 && fault != at(api.ErrForm, l[len(l)-1]) {
		t.Errorf("Parse(%q): %v, not at %v", cut, fault, l[len(l)-1])
	}
}

func TestTextsWithOneTokenChanged(t *testing.T) {
	for _, text := range texts {
		l := tokensOf(text)
		for i := range l {
			ahead, behind := strings.Join(l[:i], " "), strings.Join(l[i+1:], " ")
			checkParse(t, ahead+" "+behind)
			for _, p := range pieces {
				checkParse(t, ahead+" "+p+" "+behind)
				checkParse(t, ahead+" "+p+" "+l[i]+" "+behind)
			}
		}
	}
}

// TestTextsThatGrow adds every piece to each beginning with which a text goes on.
func TestTextsThatGrow(t *testing.T) {
	few := []string{"flow", "step", "end", "a", "needs", "after", "apart", "many", "of", "1", ",", "=", "\n"}
	grown := []string{"", "flow a\n"}
	for range 6 {
		var next []string
		for _, beginning := range grown {
			for _, p := range few {
				checkParse(t, beginning+" "+p)
				if growing(beginning + " " + p) {
					next = append(next, beginning+" "+p)
				}
			}
		}
		grown = next
	}
	if len(grown) < 1000 {
		t.Error("only", len(grown), "beginnings")
	}
}

// growing: is it the beginning of a text? (The end of its last line may be still to come.)
func growing(text string) bool {
	l, _ := lex.Scan(text)
	if !strings.HasSuffix(text, "\n") {
		l = l[:len(l)-1]
	}
	return goesOn(l)
}

func TestLinesThatEndTooEarly(t *testing.T) {
	for line, want := range map[string]string{
		"step":              "2:5",
		"step a needs":      "2:13",
		"step a after":      "2:13",
		"step a after b,":   "2:16",
		"step a needs b, c": "2:15",
		"apart":             "2:6",
		"same a,":           "2:8",
		"same a b":          "2:8",
		"most":              "2:5",
		"most 1":            "2:7",
		"few 1 of":          "2:9",
		"many 1 of a,":      "2:13",
		"many 1 of 1":       "2:11",
		"many of of a":      "2:6",
		"many 1 a":          "2:8",
		"apart 1 of a":      "2:7",
		"step 1":            "2:6",
		"step ,":            "2:6",
		"step a needs 1":    "2:14",
		"step a after 1":    "2:14",
		"needs a":           "2:1",
		"of":                "2:1",
		"zz":                "2:1",
		"flow f":            "2:1",
		", step a":          "2:1",
		"end a":             "2:5",
		"end end":           "2:5",
		"end\nstep a":       "3:1",
		"end\n7":            "3:1",
		"end\n(":            "3:1",
	} {
		wantFault(t, "flow f\n"+line+"\nstep b\nstep c\nend\n", "malformed "+want)
	}
	wantFault(t, "flow f\nend\nend\nend", "malformed 3:1")
	wantFault(t, "end", "malformed 1:1")
	wantFault(t, "a\n", "malformed 1:1")
	wantFault(t, "flow", "malformed 1:5")
	wantFault(t, "flow f g", "malformed 1:8")
	wantFault(t, "flow f", "malformed 1:7")
	wantFault(t, "flow f\n\n# end\n", "malformed 1:7")
	wantFault(t, "\n\n  # nothing", "malformed 0:0")
	wantFault(t, "flow f\nstep a\nend# the end\n\n  \n#", "ok 0:0")
}

// P7.2: what Scan tells comes first, wherever it is.
func TestTextsThatScanRefuses(t *testing.T) {
	for _, text := range append([]string{"", "end end", "flow f\nstep a\nstep a\nend\n", "flow f\nend\n", "flow f\nstep a after a\nend\n"}, texts...) {
		for _, wrong := range []string{"A", "012", "12a", "1234567890", "\r", "\x00", "é", strings.Repeat("a", 25), strings.Repeat(" ", 65537)} {
			for _, both := range []string{text + " " + wrong, wrong + " " + text, text + "\n" + wrong} {
				_, want := lex.Scan(both)
				if fault := checkParse(t, both); fault != want || want.Why == api.OK {
					t.Errorf("Parse(%.60q): %v, not %v", both, fault, want)
				}
			}
		}
	}
	long := pay + strings.Repeat("#", 65536-len(pay))
	wantFlow(t, long, payFlow())
	wantFault(t, long+"#", "too big 0:0")
	name := strings.Repeat("z", 24)
	wantFlow(t, "flow "+name+"\nstep "+name+" needs "+name+"\nend", api.Flow{Name: name, Steps: []api.Step{step(name, name)}})
	wantFault(t, "flow f\nstep "+name+"z\nend", "bad name 2:6")
}

// A text as long as one may be, of very many lines and of very long ones.
func TestLongTexts(t *testing.T) {
	head := "flow f\nstep a\n"
	many := head + strings.Repeat("same a\n", (65536-len(head)-3)/7) + "end"
	if _, fault := flow.Parse(many); fault != (api.Fault{Why: api.ErrTooBig, Line: 35, Col: 1}) {
		t.Error("of very many lines:", fault)
	}
	if _, fault := flow.Parse(strings.TrimSuffix(many, "end")); fault.Why != api.ErrForm || fault.Col != 7 {
		t.Error("of very many lines without an end:", fault)
	}
	wide := head + "same a" + strings.Repeat(",a", (65536-len(head)-11)/2) + "\nend"
	if _, fault := flow.Parse(wide); fault != (api.Fault{Why: api.ErrTwice, Line: 3, Col: 8}) {
		t.Error("of a very long LIST:", fault)
	}
	if _, fault := flow.Parse(strings.Replace(wide, "\nend", ",\nend", 1)); fault.Why != api.ErrForm || fault.Line != 3 {
		t.Error("of a very long LIST that ends too early:", fault)
	}
}
