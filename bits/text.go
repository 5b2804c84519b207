package bits

import (
	"strconv"
	"strings"

	"provost/api"
)

// maxDigits is how many digits a number in a text may have.
const maxDigits = 3

// Text is the set as a text.
func (s Set[W]) Text() string {
	text := []byte{'{'}
	for i := range s.All() {
		if len(text) > 1 {
			text = append(text, ',')
		}
		text = strconv.AppendInt(text, int64(i), 10)
	}
	return string(append(text, '}'))
}

// Parse is the set of a text, whatever s is.
func (s Set[W]) Parse(text string) (Set[W], api.Errno) {
	// All of the form is looked at first: ErrForm goes ahead of ErrArg.
	numbers, ok := readRising(text)
	if !ok {
		return Set[W]{}, api.ErrForm
	}
	set := Set[W]{}
	for _, i := range numbers {
		more, err := set.With(i)
		if err != api.OK {
			return Set[W]{}, err
		}
		set = more
	}
	return set, api.OK
}

// readRising reads rising numbers between braces.
func readRising(text string) ([]int, bool) {
	rest, begun := strings.CutPrefix(text, "{")
	rest, ended := strings.CutSuffix(rest, "}")
	if !begun || !ended {
		return nil, false
	}
	if rest == "" {
		return nil, true
	}
	var numbers []int
	last := -1
	for more := true; more; {
		var digits string
		digits, rest, more = strings.Cut(rest, ",")
		n, ok := readNumber(digits)
		if !ok || n <= last {
			return nil, false
		}
		numbers = append(numbers, n)
		last = n
	}
	return numbers, true
}

// readNumber reads a number without zeros ahead.
func readNumber(digits string) (int, bool) {
	if digits == "" || len(digits) > maxDigits {
		return 0, false
	}
	if digits[0] == '0' && len(digits) > 1 {
		return 0, false
	}
	n := 0
	for i := range len(digits) {
		c := digits[i]
		if c < '0' || c > '9' {
			return 0, false
		}
		n = 10*n + int(c-'0')
	}
	return n, true
}
