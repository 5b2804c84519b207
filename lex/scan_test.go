package lex_test

import (
	"slices"
	"strings"
	"testing"

	"provost/api"
	"provost/lex"
)

// P5.2

func TestTextsAtTheLimit(t *testing.T) {
	for _, piece := range []string{"<", " ", "\t", "#", "\n", "a ", "1\n", ", ", "A", "\xff", "-", "01 ", "a", "1", "a\n#\n"} {
		text := strings.Repeat(piece, 65537)[:65537]
		checkScan(t, text[:65535])
		checkScan(t, text[:65536])
		wantFault(t, text, api.ErrTooBig, 0, 0)
		wantFault(t, text+text, api.ErrTooBig, 0, 0)
	}
	l, fault := lex.Scan(strings.Repeat("<", 65536))
	if fault != (api.Fault{}) || len(l) != 65537 || l[65535] != at(mark("<"), 1, 65536) || l[65536] != at(end(), 1, 65537) {
		t.Error("of 65536 marks:", len(l), fault)
	}
	wantFault(t, strings.Repeat(" ", 65535)+"A", api.ErrForm, 1, 65536)
	wantFault(t, strings.Repeat("\n", 65535)+"A", api.ErrForm, 65536, 1)
	wantFault(t, "A"+strings.Repeat("\n", 65536), api.ErrTooBig, 0, 0) // named first
	wantScan(t, strings.Repeat("\n", 65535)+"a", at(word("a"), 65536, 1), at(end(), 65536, 2))
}

// Each byte alone and behind each kind of token, and something behind it.
func TestEachByte(t *testing.T) {
	for b := range 256 {
		c := string([]byte{byte(b)})
		for _, ahead := range []string{"", "a", "z9-", strings.Repeat("a", 23), strings.Repeat("a", 24), "0", "7", "12345678", "123456789", "#", "a#", "1 #x", ",", ":", " ", "\t", "\n", "a\n", "#\n", "a 1 "} {
			for _, behind := range []string{"", "\n", " ", "a", "1", "-", ",", "#", "A", c, "\nb"} {
				checkScan(t, ahead+c+behind)
			}
		}
	}
}

// What each byte is, by hand.
func TestWhatEachByteIs(t *testing.T) {
	for b := range 256 {
		c := string([]byte{byte(b)})
		switch {
		case b == ' ' || b == '\t' || b == '\n' || b == '#':
			wantScan(t, c)
		case b >= 'a' && b <= 'z':
			wantScan(t, c, at(word(c), 1, 1), at(end(), 1, 2))
		case b >= '0' && b <= '9':
			wantScan(t, c, at(number(c, b-'0'), 1, 1), at(end(), 1, 2))
		case strings.IndexByte(",:<>=()", c[0]) >= 0:
			wantScan(t, c, at(mark(c), 1, 1), at(end(), 1, 2))
		default:
			wantFault(t, c, api.ErrForm, 1, 1)
			wantFault(t, "a \n\t"+c, api.ErrForm, 2, 2)
		}
		if b != '\n' {
			wantScan(t, "#"+c)
			wantScan(t, "1#"+c+"b", at(number("1", 1), 1, 1), at(end(), 1, 5))
		}
	}
}

func TestWordsByTheirLength(t *testing.T) {
	for _, more := range []string{"a", "0", "-", "x-1"} {
		for n := 1; n < 60; n++ {
			name := ("q" + strings.Repeat(more, n))[:n]
			if n > 24 {
				wantFault(t, name, api.ErrName, 1, 1)
				wantFault(t, "b\n ,"+name+" A", api.ErrName, 2, 3)
				continue
			}
			wantScan(t, name, at(word(name), 1, 1), at(end(), 1, n+1))
			wantScan(t, "("+name+")\n", at(mark("("), 1, 1), at(word(name), 1, 2), at(mark(")"), 1, n+2), at(end(), 1, n+3))
		}
	}
	wantFault(t, strings.Repeat("a", 65536), api.ErrName, 1, 1)
	wantFault(t, strings.Repeat("a", 25)+"A", api.ErrName, 1, 1)
	wantFault(t, strings.Repeat("a", 24)+"A", api.ErrForm, 1, 25)
}

func TestNumbers(t *testing.T) {
	for text, value := range map[string]int{"0": 0, "1": 1, "9": 9, "10": 10, "99": 99, "100": 100, "909090909": 909090909, "123456789": 123456789, "999999999": 999999999, "100000000": 100000000, "12345678": 12345678} {
		wantScan(t, text, at(number(text, value), 1, 1), at(end(), 1, len(text)+1))
		wantScan(t, " "+text+",", at(number(text, value), 1, 2), at(mark(","), 1, len(text)+2), at(end(), 1, len(text)+3))
		wantScan(t, text+" a", at(number(text, value), 1, 1), at(word("a"), 1, len(text)+2), at(end(), 1, len(text)+3))
		wantScan(t, text+"#a\n", at(number(text, value), 1, 1), at(end(), 1, len(text)+3))
		for _, behind := range []string{"a", "z", "-", "m1", "-1", "--"} {
			wantFault(t, text+behind, api.ErrForm, 1, 1)
			wantFault(t, "\n\n b "+text+behind, api.ErrForm, 3, 4)
		}
		for _, behind := range []string{"A", "Z", "_", "`", "{", "/", ";", "\r", "\x80"} { // a fault of its own
			wantFault(t, text+behind, api.ErrForm, 1, len(text)+1)
		}
		if text != "0" {
			wantFault(t, "0"+text, api.ErrForm, 1, 1)
		}
	}
	for _, text := range []string{"00", "01", "000000000", "0123456789", "1000000000", "9999999999", "1234567890", strings.Repeat("1", 65534), strings.Repeat("0", 65534), "18446744073709551617"} {
		wantFault(t, text, api.ErrForm, 1, 1)
		wantFault(t, "a:"+text, api.ErrForm, 1, 3)
	}
}

// The first fault ends it, whatever stands behind.
func TestFaultsBehindFaults(t *testing.T) {
	for _, x := range faulty() {
		for _, y := range faulty() {
			for _, between := range []string{"", " ", "\n", ",", " # A\n", "\t1 "} {
				checkScan(t, x+between+y)
				checkScan(t, "a1 "+x+between+y+"\n")
				checkScan(t, "# "+x+"\n\n\t"+y+between+x)
			}
		}
	}
	long := strings.Repeat("a", 25)
	wantFault(t, "\n "+long+" 01 A", api.ErrName, 2, 2)
	wantFault(t, "\n 01 "+long+" A", api.ErrForm, 2, 2)
	wantFault(t, "\n A "+long+" 01", api.ErrForm, 2, 2)
	wantFault(t, "a, b, 1x "+long, api.ErrForm, 1, 7)
}

func TestLinesWithoutTokens(t *testing.T) {
	for _, line := range []string{"", " ", "\t", " \t ", "#", "# a", " # A \xff", "#\r", "##"} {
		for _, more := range []string{"", "\n", "\n\n", "\n" + line, "\n" + line + "\n"} {
			wantScan(t, line+more)
		}
		wantScan(t, line+"\nb", at(word("b"), 2, 1), at(end(), 2, 2))
		wantScan(t, line+"\n"+line+"\nb\n"+line, at(word("b"), 3, 1), at(end(), 3, 2))
		wantScan(t, "b\n"+line+"\nc\n"+line+"\n", at(word("b"), 1, 1), at(end(), 1, 2), at(word("c"), 3, 1), at(end(), 3, 2))
	}
}

// A Line token stands at the byte 10, or behind the text's last byte.
func TestWhereLinesEnd(t *testing.T) {
	for _, behind := range []string{"", " ", "\t\t", "#", " # b \x00", "   "} {
		col := 2 + len(behind)
		for _, more := range []string{"", "\n", "\n\n", "\n #\n"} {
			wantScan(t, "a"+behind+more, at(word("a"), 1, 1), at(end(), 1, col))
			wantScan(t, "\na"+behind+more, at(word("a"), 2, 1), at(end(), 2, col))
		}
	}
}

// P5.2 and P5.5, over many texts.
func TestManyTexts(t *testing.T) {
	d := draw(5)
	whole, parts := sound(), append(append(sound(), sound()...), faulty()...)
	oks := 0
	for i := range 6000 {
		text := d.text(parts, i%9)
		checkScan(t, text)
		var b strings.Builder // a row without a fault: pieces that stand apart
		for range i % 30 {
			b.WriteString(whole[d.below(len(whole))] + " ")
		}
		checkScan(t, b.String())
		if l, _ := lex.Scan(b.String()); len(l) > 0 {
			oks++
		}
	}
	if oks < 4000 {
		t.Error("only", oks, "texts have tokens")
	}
}

func TestTextsOfAnyBytes(t *testing.T) {
	d := draw(9)
	few := "a-0 1,:\n#A"
	for i := range 20000 {
		b := make([]byte, d.below(12))
		for k := range b {
			b[k] = few[d.below(len(few))]
			if i%4 == 0 {
				b[k] = byte(d.below(256))
			}
		}
		checkScan(t, string(b))
	}
}

// All texts of up to five of the bytes that differ in kind.
func TestAllShortTexts(t *testing.T) {
	texts := []string{""}
	for range 5 {
		var longer []string
		for _, text := range texts {
			checkScan(t, text)
			for _, c := range "a-01,#\n A" {
				longer = append(longer, text+string(c))
			}
		}
		texts = longer
	}
}

// P5.5: what Show tells may be longer than a text may be.
func TestScanAgainAtTheLimit(t *testing.T) {
	for _, n := range []int{32767, 32768, 32769, 65536} {
		for _, c := range []string{"<", ",", ":", "("} {
			text := strings.Repeat(c, n)
			checkScan(t, text)
			l, _ := lex.Scan(text)
			told, _ := lex.Show(l)
			long := n + 1 // a byte 10 more
			if c == "<" || c == "(" {
				long = 2 * n // and blanks
			}
			if len(told) != long {
				t.Errorf("%d of %s: %d bytes", n, c, len(told))
			}
		}
	}
}

// R2: what is told is the caller's own, its spare room too; nothing is kept.

func spoil[T any](l []T, with T) {
	l = l[:cap(l)]
	for i := range l {
		l[i] = with
	}
}

func TestTokensThatAreToldAreTheCallersOwn(t *testing.T) {
	texts := []string{"step a-1 after b, c", "\n# x\n  12:0 \n", "a\nb\nc\n1 2 3", "", "A", "a A", strings.Repeat("a", 25)}
	for _, text := range texts {
		want, wrong := scanned(text)
		one, fault := lex.Scan(text)
		two, again := lex.Scan(text)
		spoil(one, at(word("spoilt"), -1, -1))
		if !slices.Equal(two, want) || fault != wrong || again != wrong {
			t.Errorf("Scan(%q): %v", text, two)
		}
		lex.Scan("other, 9")
		if three, _ := lex.Scan(text); !slices.Equal(three, want) || !slices.Equal(two, want) {
			t.Errorf("Scan(%q), told again: %v", text, three)
		}
	}
}
