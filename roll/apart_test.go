package roll_test

import (
	"testing"

	"provost/api"
	"provost/roll"
)

// R3: with a fault there is no organisation; without one the fault is zero.
func TestFaultsComeAlone(t *testing.T) {
	for _, x := range faulty {
		if o, fault := roll.Parse(company + x.lines + "\nend\n"); o != nil || fault.Why == api.OK {
			t.Errorf("of %.60q: %v beside %v", x.lines, o, fault)
		}
	}
	if o, fault := roll.Parse(company + "end\n"); o == nil || fault != (api.Fault{}) {
		t.Errorf("without a fault: %v beside %v", o, fault)
	}
}

// A fault leaves nothing behind for the next text.
func TestTextsAreApart(t *testing.T) {
	for _, x := range faulty {
		roll.Parse(company + x.lines + "\nend\n")
		wantPrint(t, full, full)
	}
}

// R4: two organisations of one text, changed in turns, know nothing of each other.
func TestTwoOrganisationsOfOneText(t *testing.T) {
	x, y := must(t, full), must(t, full)
	if x == y {
		t.Fatal("one organisation told twice")
	}
	// Each goes the way of one that is made of the text alone, and changed alone.
	rows := [2][]string{
		{"user dan", "nouser bob", "join cyd of boss", "grant boss, pay", "tick 1", "rest ann", "lend cyd, ann until 99", "norole clerk"},
		{"role dan", "bar ann, ask", "over clerk, dan", "wake bob", "nouser ann", "tick 2", "user ann", "join ann of dan"},
	}
	for i := range rows[0] {
		change(t, x, rows[0][i])
		change(t, y, rows[1][i])
		aloneX, aloneY := must(t, full), must(t, full)
		change(t, aloneX, rows[0][:i+1]...)
		change(t, aloneY, rows[1][:i+1]...)
		if picture(x) != picture(aloneX) || picture(y) != picture(aloneY) {
			t.Fatalf("behind %s and %s there are\n%s\nand\n%s", rows[0][i], rows[1][i], picture(x), picture(y))
		}
		if roll.Print(x) != printed(aloneX) || roll.Print(y) != printed(aloneY) {
			t.Fatalf("behind %s and %s: %q and %q", rows[0][i], rows[1][i], roll.Print(x), roll.Print(y))
		}
	}
}

// R4: what was printed, and what was made of it, does not hang on what comes later.
func TestWhatWasPrintedStays(t *testing.T) {
	o := must(t, full)
	text := roll.Print(o)
	b := must(t, text)
	was := picture(b)
	change(t, o, "nouser ann", "norole boss", "user dan", "tick 5")
	if text != full || picture(b) != was || roll.Print(b) != full {
		t.Errorf("%q has become %q", full, roll.Print(b))
	}
	change(t, b, "nouser cyd")
	if picture(must(t, text)) != was {
		t.Error("a text has become another organisation's")
	}
}

// The same texts and organisations are answered alike, however often they are asked.
func TestTheSameIsAnsweredAlike(t *testing.T) {
	o := crowd(t)
	text := roll.Print(o)
	is := picture(must(t, text))
	for range 5 {
		if roll.Print(o) != text || picture(must(t, text)) != is {
			t.Fatal("not what it was")
		}
	}
}
