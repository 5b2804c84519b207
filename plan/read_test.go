package plan_test

import (
	"bytes"
	"slices"
	"testing"

	"provost/api"
	"provost/plan"
	"provost/solve"
)

// P14.3, P14.4

// reads is what the chapter's words say of bytes: the table's lengths are counted
// out first, then each number is taken from its place.
func reads(raw []byte) (p api.Problem, l []int, err api.Errno) {
	at := func(place int) int {
		if place >= len(raw) {
			return 0
		}
		return int(raw[place])
	}
	steps := at(3)
	count := 4 + 10*steps
	var starts []int
	next := count + 1
	for range at(count) {
		starts = append(starts, next)
		next += 6 + at(next+5)
	}
	if len(raw) != next || at(0) != 80 || at(1) != 67 {
		return api.Problem{}, nil, api.ErrForm
	}
	p.Users = at(2)
	for step := range steps {
		var word uint64
		for i := range 8 {
			word += uint64(at(4+10*step+i)) << (56 - 8*i)
		}
		p.Who = append(p.Who, word)
		p.Fixed = append(p.Fixed, at(12+10*step)-1)
		l = append(l, at(13+10*step))
	}
	for _, start := range starts {
		x := api.Rule{Kind: at(start), K: at(start+1)<<24 + at(start+2)<<16 + at(start+3)<<8 + at(start+4)}
		for i := range at(start + 5) {
			x.Steps = append(x.Steps, at(start+6+i))
		}
		p.Rules = append(p.Rules, x)
	}
	if solve.Check(p) != api.OK {
		return api.Problem{}, nil, api.ErrForm
	}
	if !solve.Holds(p, l) {
		return api.Problem{}, nil, api.ErrCorrupt
	}
	return p, l, api.OK
}

// checkBytes holds Read against those words; what is taken is written again.
func checkBytes(t *testing.T, raw []byte) api.Errno {
	t.Helper()
	p, l, want := reads(raw)
	q, m, err := plan.Read(raw)
	if err != want || show(q, m) != show(p, l) {
		t.Fatalf("Read(%v): %v, %v, %v; not %v, %v, %v", raw, q, m, err, p, l, want)
	}
	if err != api.OK {
		return err
	}
	if again, err := plan.Write(q, m); err != api.OK || !bytes.Equal(again, raw) {
		t.Fatalf("%v is taken, and written as %v, %v", raw, again, err)
	}
	return api.OK
}

// few are certificates of some problems that are small.
func few(t *testing.T) [][]byte {
	var l [][]byte
	problems, plans := soluble(t)
	for i, p := range problems {
		if len(p.Who) <= 4 && len(p.Rules) <= 3 && i%4 == 0 {
			raw, _ := plan.Write(p, plans[i])
			l = append(l, raw)
		}
	}
	return l
}

// Every byte is turned to every other one.
func TestReadWithEachByteTurned(t *testing.T) {
	times := map[api.Errno]int{}
	for _, raw := range append(few(t), slices.Clone(one[:])) {
		for place := range raw {
			was := raw[place]
			for to := range 256 {
				raw[place] = byte(to)
				times[checkBytes(t, raw)]++
			}
			raw[place] = was
		}
	}
	if times[api.OK] < 1000 || times[api.ErrForm] < 1000 || times[api.ErrCorrupt] < 1000 || len(times) != 3 {
		t.Error("answers:", times)
	}
}

// Nothing is taken that ends too early or too late.
func TestReadOfOtherLengths(t *testing.T) {
	for _, raw := range few(t) {
		for n := range raw {
			checkRead(t, raw[:n], api.ErrForm)
		}
		for _, more := range [][]byte{{0}, {1}, {0, 0}, {80, 67}, raw, make([]byte, 6)} {
			checkRead(t, append(slices.Clone(raw), more...), api.ErrForm)
		}
		for place := range raw {
			checkBytes(t, slices.Insert(slices.Clone(raw), place, 0))
			checkBytes(t, slices.Delete(slices.Clone(raw), place, place+1))
		}
	}
}

// Bytes that look like chance, most of them with a beginning that is right.
func TestReadOfAnyBytes(t *testing.T) {
	d := dice(6)
	for i := range 60000 {
		raw := make([]byte, d.draw(40))
		for place := range raw {
			raw[place] = byte(d.draw([]int{256, 4}[i%2]))
		}
		if i%3 > 0 {
			copy(raw, []byte{80, 67, byte(d.draw(70)), byte(d.draw(3))})
		}
		checkBytes(t, raw)
	}
}

// A problem may be of the form of a certificate, and still none that Check takes.
func TestReadOfWrongProblems(t *testing.T) {
	whole := func(n, users int, rules ...api.Rule) []byte {
		p := forAll(n, min(users, 64), rules...)
		p.Users = users
		return bytesOf(p, make([]int, n))
	}
	checkRead(t, whole(12, 64), api.OK)
	checkRead(t, whole(13, 64), api.ErrForm)
	checkRead(t, whole(255, 1), api.ErrForm)
	checkRead(t, whole(1, 65), api.ErrForm)
	checkRead(t, whole(1, 255), api.ErrForm)
	same := r(api.Same, 0, 0, 1)
	checkRead(t, whole(2, 1, slices.Repeat([]api.Rule{same}, 32)...), api.OK)
	checkRead(t, whole(2, 1, slices.Repeat([]api.Rule{same}, 33)...), api.ErrForm)
	checkRead(t, whole(2, 1, slices.Repeat([]api.Rule{same}, 255)...), api.ErrForm)
	checkRead(t, whole(2, 1, r(api.Same, 0, slices.Repeat(u{1}, 255)...)), api.ErrForm)
	for _, x := range []struct {
		rule api.Rule
		want api.Errno
	}{
		{r(api.Most, 999999999, 0, 1), api.OK},
		{r(api.Most, 1000000000, 0, 1), api.ErrForm},
		{r(api.Few, 1<<32-1, 0, 1), api.ErrForm},
		{r(api.Most, 0, 0, 1), api.ErrForm},
		{r(api.Many, 2, 0, 1), api.ErrCorrupt},
		{r(api.Many, 3, 0, 1), api.ErrForm},
		{r(api.Same, 1, 0, 1), api.ErrForm},
		{r(api.Same, 1<<24, 0, 1), api.ErrForm},
		{r(api.Same, 0, 1, 0), api.ErrForm},
		{r(api.Same, 0, 0, 2), api.ErrForm},
		{r(api.Same, 0, 0), api.ErrForm},
		{r(0, 0, 0, 1), api.ErrForm},
		{r(6, 0, 0, 1), api.ErrForm},
		{r(api.Few, 1), api.ErrForm},
	} {
		raw := whole(2, 1, x.rule)
		checkRead(t, raw, x.want)
		checkBytes(t, raw)
	}
}

// What is wrong with the form is told ahead of what is wrong with the plan.
func TestReadTellsTheFormFirst(t *testing.T) {
	flawed := turned(13, 9)
	checkRead(t, flawed, api.ErrCorrupt)
	checkRead(t, append(slices.Clone(flawed), 0), api.ErrForm)
	flawed[12] = 2
	checkRead(t, flawed, api.ErrForm)
	flawed[12], flawed[1] = 0, 'D'
	checkRead(t, flawed, api.ErrForm)
}

// Counts that ask for more than there is, and a great many bytes.
func TestReadEnds(t *testing.T) {
	checkRead(t, slices.Repeat([]byte{255}, 1<<16), api.ErrForm)
	for _, users := range []byte{1, 255} {
		for n := range 300 {
			raw := slices.Repeat([]byte{255}, 4+n)
			copy(raw, []byte{80, 67, users})
			checkRead(t, raw, api.ErrForm)
		}
	}
	long := make([]byte, 1<<24)
	copy(long, one[:])
	checkRead(t, long, api.ErrForm)
}
