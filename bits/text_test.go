package bits_test

import (
	"regexp"
	"strconv"
	"strings"
	"testing"

	"provost/api"
	"provost/bits"
)

// P1.6

func TestText(t *testing.T) {
	inAll(t, checkText[uint8], checkText[uint16], checkText[uint32], checkText[uint64], checkText[mark])
	if got := of[uint64](1<<63 + 1<<5 + 1).Text(); got != "{0,5,63}" {
		t.Error("of 64 bits:", got)
	}
	if a, b, c := of[uint8](0).Text(), of[uint8](8).Text(), of[uint8](0b10010110).Text(); a != "{}" || b != "{3}" || c != "{1,2,4,7}" {
		t.Error("of 8 bits:", a, b, c)
	}
}

func checkText[W bits.Word](t *testing.T) {
	for _, w := range words[W]() {
		var l []string
		for _, i := range numbers(w) {
			l = append(l, strconv.Itoa(i))
		}
		if got, want := of(w).Text(), "{"+strings.Join(l, ",")+"}"; got != want {
			t.Errorf("%#x.Text: %s, not %s", w, got, want)
		}
	}
}

func TestParse(t *testing.T) {
	for _, x := range []struct {
		text string
		word uint8
		e    api.Errno
	}{
		{"{}", 0, api.OK}, {"{0}", 1, api.OK}, {"{0,3}", 9, api.OK}, {"{7}", 128, api.OK}, {"{0,1,2,3,4,5,6,7}", 255, api.OK},
		{"{8}", 0, api.ErrArg}, {"{0,8}", 0, api.ErrArg}, {"{99}", 0, api.ErrArg}, {"{999}", 0, api.ErrArg}, {"{256}", 0, api.ErrArg}, {"{1,100,200,999}", 0, api.ErrArg},
		{"{3,0}", 0, api.ErrForm}, {"{3,3}", 0, api.ErrForm}, {"{0,0}", 0, api.ErrForm}, {"{10,9}", 0, api.ErrForm}, {"{1,2,1}", 0, api.ErrForm},
		{"{03}", 0, api.ErrForm}, {"{00}", 0, api.ErrForm}, {"{1,02}", 0, api.ErrForm}, {"{1000}", 0, api.ErrForm}, {"{0001}", 0, api.ErrForm}, {"{18446744073709551616}", 0, api.ErrForm},
		{"{1,}", 0, api.ErrForm}, {"{,}", 0, api.ErrForm}, {"{,1}", 0, api.ErrForm}, {"{1,,2}", 0, api.ErrForm}, {"{1;2}", 0, api.ErrForm},
		{"", 0, api.ErrForm}, {"{", 0, api.ErrForm}, {"}", 0, api.ErrForm}, {"}{", 0, api.ErrForm}, {"1", 0, api.ErrForm}, {"{1", 0, api.ErrForm}, {"1}", 0, api.ErrForm}, {"{{}}", 0, api.ErrForm}, {"{1}}", 0, api.ErrForm}, {"{}{}", 0, api.ErrForm}, {"{1}{2}", 0, api.ErrForm},
		{" {1}", 0, api.ErrForm}, {"{1} ", 0, api.ErrForm}, {"{1}\n", 0, api.ErrForm}, {"{ 1}", 0, api.ErrForm}, {"{1, 2}", 0, api.ErrForm}, {"{ }", 0, api.ErrForm}, {"{1\x00}", 0, api.ErrForm},
		{"{+1}", 0, api.ErrForm}, {"{-1}", 0, api.ErrForm}, {"{-0}", 0, api.ErrForm}, {"{0x1}", 0, api.ErrForm}, {"{1_0}", 0, api.ErrForm}, {"{a}", 0, api.ErrForm}, {"{/}", 0, api.ErrForm}, {"{:}", 0, api.ErrForm}, {"{\u0661}", 0, api.ErrForm}, {"{\xff}", 0, api.ErrForm},
		{"{8,x}", 0, api.ErrForm}, {"{9,8}", 0, api.ErrForm}, {"{8,1000}", 0, api.ErrForm}, {"{8", 0, api.ErrForm},
	} {
		for _, on := range []uint8{0, 255} {
			if s, e := of(on).Parse(x.text); s.Word() != x.word || e != x.e {
				t.Errorf("%#x.Parse(%q): %#x, %v; not %#x, %v", on, x.text, s.Word(), e, x.word, x.e)
			}
		}
	}
}

// readAnother reads a text in another way than the package does.
func readAnother(text string, width int) (uint64, api.Errno) {
	form := regexp.MustCompile(`^\{((0|[1-9][0-9]{0,2})(,(0|[1-9][0-9]{0,2}))*)?\}$`)
	if !form.MatchString(text) {
		return 0, api.ErrForm
	}
	word, last, e := uint64(0), -1, api.OK
	for _, digits := range regexp.MustCompile(`[0-9]+`).FindAllString(text, -1) {
		i, _ := strconv.Atoi(digits)
		if i <= last {
			return 0, api.ErrForm
		}
		if last = i; i >= width {
			e = api.ErrArg
		} else {
			word |= 1 << i
		}
	}
	if e != api.OK {
		return 0, e
	}
	return word, api.OK
}

func TestParseEveryShortText(t *testing.T) {
	texts := []string{""}
	for len(texts) > 0 && len(texts[0]) <= 5 {
		var longer []string
		for _, text := range texts {
			word, e := readAnother(text, 8)
			if s, err := of[uint8](0).Parse(text); s.Word() != uint8(word) || err != e {
				t.Fatalf("Parse(%q): %#x, %v; not %#x, %v", text, s.Word(), err, word, e)
			}
			for _, c := range "{},018" {
				longer = append(longer, text+string(c))
			}
		}
		texts = longer
	}
}

func TestParseEdgesOfWidths(t *testing.T) {
	inAll(t, checkParseEdges[uint8], checkParseEdges[uint16], checkParseEdges[uint32], checkParseEdges[uint64], checkParseEdges[mark])
}

func checkParseEdges[W bits.Word](t *testing.T) {
	for i := range 1000 {
		want, e := W(0), api.ErrArg
		if i < widthOf[W]() {
			want, e = W(1)<<i, api.OK
		}
		if s, err := of[W](0).Parse("{" + strconv.Itoa(i) + "}"); s.Word() != want || err != e {
			t.Errorf("{%d}: %#x, %v; not %#x, %v", i, s.Word(), err, want, e)
		}
	}
	var l []string
	for i := range 1000 {
		l = append(l, strconv.Itoa(i))
	}
	if s, e := of[W](0).Parse("{" + strings.Join(l, ",") + "}"); s.Word() != 0 || e != api.ErrArg {
		t.Errorf("all numbers of three digits: %#x, %v", s.Word(), e)
	}
}

// P1.7, of texts

func TestParseOfText(t *testing.T) {
	inAll(t, checkParseOfText[uint8], checkParseOfText[uint16], checkParseOfText[uint32], checkParseOfText[uint64], checkParseOfText[mark])
}

func checkParseOfText[W bits.Word](t *testing.T) {
	for _, w := range words[W]() {
		s := of(w)
		for _, on := range []bits.Set[W]{{}, s, s.Not()} {
			if got, e := on.Parse(s.Text()); got != s || e != api.OK {
				t.Errorf("Parse(%s): %#x, %v", s.Text(), got.Word(), e)
			}
		}
	}
}
