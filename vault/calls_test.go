package vault_test

import (
	"fmt"
	"math"
	"strings"
	"testing"

	"provost/api"
	"provost/journal"
)

// P24.2 and P24.3. A world holds each reply, each write and all blocks of the disk
// against what they must be.

// ready is a world behind the calls of the prelude.
func ready(t *testing.T, blocks int) *world {
	t.Helper()
	w := begun(t, blocks)
	w.does(calls(prelude)...)
	return w
}

func TestEachOpIsJournalled(t *testing.T) {
	for _, c := range calls(good) {
		w := ready(t, 200)
		w.does(c, of("role v"))
		w.open()
	}
}

// With something in fields that the Op does not take the same is done, and journalled.
func TestCallsAreJournalledBare(t *testing.T) {
	for _, c := range calls(good) {
		for _, other := range strewn(c) {
			w := ready(t, 200)
			w.does(other, of("role v"))
			if got := w.records[len(w.records)-2]; got != written(c) {
				t.Fatalf("%v: %q", other, got)
			}
			w.open()
			_, records, err := journal.Open(w.d)
			if err != api.OK || string(records[len(records)-2]) != written(c) {
				t.Errorf("%v: %v", other, err)
			}
		}
	}
}

// What an Op does not take may be too long for an image.
func TestWhatIsNotTakenMayBeLong(t *testing.T) {
	w := begun(t, 40)
	long := strings.Repeat("x", 70000)
	w.does(api.Call{Op: api.OpUser, A: "ann", B: long, C: long, N: math.MinInt64, Text: long})
	w.does(api.Call{Op: api.OpTick, A: long, N: 2})
	w.does(api.Call{Op: api.AskUser, A: "ann", B: long, Text: long})
	w.open()
}

func TestRefusedCallsCostNothing(t *testing.T) {
	w := ready(t, 200)
	was := told(w.v.Do)
	for _, c := range calls(bad) {
		for _, x := range append(strewn(c), c) {
			if r := w.do(x); r.Err == api.OK {
				t.Errorf("%v is not refused", x)
			}
		}
		if now := told(w.v.Do); now != was {
			t.Fatalf("behind %v: %s; not %s", c, now, was)
		}
	}
	long := strings.Repeat("x", 70000)
	for _, c := range []api.Call{{Op: api.OpUser, A: long}, {Op: api.OpGrant, A: "r", B: long}, {Op: api.OpFlow, Text: "flow x\nstep a\nend\n#" + long}, {Op: api.OpStart, A: long}} {
		if r := w.do(c); r.Err == api.OK {
			t.Errorf("%.40v is not refused", c)
		}
	}
	w.open()
}

func TestDeadEndsCostNothing(t *testing.T) {
	w := ready(t, 200)
	w.plays("claim ann a 3 = dead end\nclaim bob a 3 = 0\nclaim bob b 3 = not authorised\nclaim ann b 3 = 0")
	w.open()
}

func TestAsksCostNothing(t *testing.T) {
	w := ready(t, 200)
	for _, c := range calls("inst 1|inst 9|can ann 2|can dan 1|who sign 1|who zed 1|plan 1|plan 3|why 1|log 1|whois ann|whois dan|show pay|show zed|org|stuck|now") {
		w.do(c)
		w.do(api.Call{Op: c.Op, A: c.A, B: c.B, C: "x", N: c.N, Text: "y"})
	}
	w.open()
}

func TestOtherOps(t *testing.T) {
	w := ready(t, 200)
	for op := -300; op <= 600; op++ {
		if op < 1 || op > 22 {
			w.do(api.Call{Op: op, A: "ann", B: "ask", N: 1})
		}
	}
	for _, op := range []int{math.MinInt64, math.MaxInt64, 1<<8 + 2, 1<<32 + 2, -2} {
		if r := w.do(api.Call{Op: op, A: "dan"}); said(r) != "no such call" {
			t.Error(op, said(r))
		}
	}
	w.open()
}

// Without power, and as long as nothing was answered ErrDown, what is asked and what is
// refused is answered as ever.
func TestNoPower(t *testing.T) {
	w := ready(t, 200)
	w.lay(0)
	for range 2 {
		w.plays("now = 1\nwho ask 2 = 1 ann\nuser ann = twice\nclaim ann a 3 = dead end\nstart zed = no such flow")
		w.do(api.Call{Op: 99})
	}
	w.plays("user dan = no power")
	for range 2 {
		for _, lines := range []string{"now|org|who ask 2|user ann|user dan|claim ann a 3|tick 0|show zed", good, bad} {
			for _, c := range calls(lines) {
				if r := w.do(c); said(r) != "no power" {
					t.Fatal(c, said(r))
				}
			}
		}
		for _, op := range []int{0, -1, 99, 256} {
			if r := w.do(api.Call{Op: op}); said(r) != "no power" {
				t.Fatal(op, said(r))
			}
		}
		w.restart() // which this vault takes no notice of
	}
	w.open()
	w.plays("user dan = 3\nnow = 1")
}

// Power that is back ahead of the next call was never missed.
func TestPowerThatIsBackInTime(t *testing.T) {
	w := ready(t, 200)
	w.lay(0)
	w.plays("now = 1\nuser ann = twice")
	w.restart()
	w.plays("user dan = 3\nwhois dan = 0")
	w.lay(4)
	w.plays("user eve = 4")
	w.restart()
	w.plays("user fay = 5")
	w.open()
}

func TestDownByEachOp(t *testing.T) {
	for _, c := range calls(good) {
		cost := blocks(written(c)) + 2
		for cut := range cost + 2 {
			w := ready(t, 200)
			w.lay(cut)
			r := w.do(c)
			if (r.Err == api.OK) != (cut >= cost) || r.Err != api.OK && said(r) != "no power" {
				t.Fatal(c, "behind", cut, "writes:", said(r))
			}
			w.do(of("now"))
			w.do(c)
			w.restart()
			w.do(of("org"))
			w.open()
			w.do(c)
			w.open()
		}
	}
}

// A disk of each size up to one that holds all calls.
func TestSpace(t *testing.T) {
	all := calls(prelude)
	whole := 2
	for _, r := range images(all) {
		whole += 1 + blocks(r)
	}
	for size := 2; size < whole+3; size++ {
		w := begun(t, size)
		lacks := false
		for _, c := range all {
			lacks = w.do(c).Err == api.ErrSpace || lacks
		}
		if lacks != (size < whole) {
			t.Error("a disk of", size, "blocks; needed are", whole)
		}
		w.plays("now = 1")
		w.open()
	}
}

// A call for which there is no space leaves the vault as it was; a shorter one may
// have space behind it.
func TestNoSpaceIsNotTheEnd(t *testing.T) {
	w := begun(t, 4)
	w.plays("user ann = no space\norg = 0 org 1|end\nuser ann = no space\nuser A = bad name\ntick 5 = 0\nnow = 6\ntick 1 = no space\ntick 0 = bad argument\nnow = 6")
	w.open()
	w.lay(0)
	w.plays("tick 0 = bad argument\ntick 1 = no power\nnow = no power")
	w.open()
	w.plays("tick 1 = no space\nnow = 6")
}

func TestNoSpaceForOneAtAll(t *testing.T) {
	for _, size := range []int{2, 3} {
		w := begun(t, size)
		w.plays("tick 5 = no space\nnow = 1\nuser ann = no space\nuser A = bad name\norg = 0 org 1|end")
		w.open()
	}
}

// P24.3

func TestCounts(t *testing.T) {
	w := begun(t, 200)
	for i := 1; i < 20; i++ {
		w.does(of(fmt.Sprint("user u", i)))
		w.do(of("user u1"))
		w.do(of("now"))
		if w.v.Len() != i {
			t.Error(w.v.Len(), "not", i)
		}
		w.open()
		if w.v.Len() != i || w.v.Boots() != i+1 {
			t.Error(w.v.Len(), w.v.Boots(), "not", i, i+1)
		}
	}
	w.lay(2)
	w.plays("user dan = no power")
	if w.v.Len() != 19 || w.v.Boots() != 20 {
		t.Error(w.v.Len(), w.v.Boots())
	}
}

// Texts of flows up to the greatest.
func TestLongTexts(t *testing.T) {
	w := begun(t, 9000)
	for i, n := range []int{40, 1000, 1<<16 - 1, 1 << 16, 1<<16 + 1} {
		text := fmt.Sprint("flow f", i, "\nstep a\nend\n#")
		r := w.do(api.Call{Op: api.OpFlow, Text: text + strings.Repeat("x", n-len(text))})
		if (r.Err == api.OK) != (n <= api.MaxText) || r.Err != api.OK && r.Err != api.ErrTooBig {
			t.Error(n, said(r))
		}
	}
	w.open()
}
