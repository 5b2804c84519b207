package vault_test

import (
	"testing"

	"provost/api"
	"provost/desk"
	"provost/vault"
)

// P24.5 and D5. A world holds each opening against a desk that did the calls that were
// answered OK: the title of a record is written last, so that a call that was answered
// ErrDown is never there.

// day is a script whose calls are answered OK, each behind all others.
const day = prelude + "|tick 1|user dan|role u|over u t|grant u pay|join dan u|done ann ask 1|start solo|claim bob a 3|claim bob sign 1|tick 3|norole t|" +
	"back bob cyd|wake cyd|unbar cyd ask|done bob sign 1|leave bob s|nouser bob|noover r s|revoke r ask|abort 2|lend ann dan 2|tick 2|rest dan"

// The power fails behind each write of the day, and again a few writes from there on.
func TestPowerThatFailsBehindEachWrite(t *testing.T) {
	all, writes := calls(day), 1
	for _, r := range images(all) {
		writes += blocks(r) + 2
	}
	for first := range writes + 2 {
		for _, again := range []int{0, 1, 3, 6} {
			w := &world{t: t, d: newDisk(t, 240), k: desk.New(), fuse: -1}
			w.lay(first)
			w.through(all, []int{again, again})
		}
	}
}

// through opens the world's disk and does calls, each till it is answered OK. Whenever
// the power fails it is given again, with the next fuse, then without one.
func (w *world) through(l []api.Call, fuses []int) {
	w.t.Helper()
	next := func() {
		w.restart()
		if len(fuses) > 0 {
			w.lay(fuses[0])
			fuses = fuses[1:]
		}
		w.open()
	}
	w.open()
	for _, c := range l {
		r := w.do(c)
		for r.Err == api.ErrDown {
			next()
			r = w.do(c)
		}
		if r.Err != api.OK {
			w.t.Fatal(c, r.Err)
		}
	}
	next()
}

// Calls that are tried behind the one that found no power are not there either,
// whatever the power does.
func TestNothingIsDoneBehindErrDown(t *testing.T) {
	all := calls(day)
	for cut := range 40 {
		w := begun(t, 400)
		w.lay(cut)
		down := false
		for i, c := range all {
			r := w.do(c)
			if down && r.Err != api.ErrDown {
				t.Fatal(c, r.Err)
			}
			if down = r.Err == api.ErrDown; down && i%2 == 0 {
				w.restart()
			}
		}
		w.open()
		w.do(of("user zoe"))
		w.open()
	}
}

// drawn is a call of any Op, of names of which most are known at some time.
func (d *dice) drawn() api.Call {
	if d.under(12) == 0 {
		return one(d, calls("flow one;step a;end|flow two;step a needs ask;step b needs approve after a;same a, b;end|flow x|flow two;step b needs s;end"))
	}
	op := 1 + d.under(22)
	if d.under(6) == 0 {
		op = 30 + d.under(13)
	}
	names := []string{"ann", "bob", "cyd", "dan", "eve", "A"}
	switch {
	case op == 19 || op == 37:
		names = []string{"pay", "solo", "one", "two", "zed"}
	case op == 4 || op == 5 || op >= 8 && op <= 11:
		names = []string{"r", "s", "t", "u", "R"}
	}
	others := []string{"r", "s", "t", "u", "ask", "approve", "pay"}
	if op == 14 || op == 15 {
		others = names
	}
	if op == 20 || op == 21 || op == 32 {
		others = []string{"ask", "sign", "a", "b"}
	}
	c := api.Call{Op: op, A: one(d, names), B: one(d, others), N: 1 + d.under(4), Text: one(d, []string{"", "x"})}
	if d.under(10) == 0 {
		c.N = one(d, []int{0, -1, 9, api.MaxTick})
	}
	return c
}

func TestDrawnScripts(t *testing.T) {
	x := dice(24)
	seen := map[api.Errno]int{}
	for i := range 120 {
		w := begun(t, 60+x.under(600))
		if i%4 > 0 {
			w.does(calls(prelude)[:x.under(21)]...)
		}
		for range 150 {
			switch x.under(30) {
			case 0:
				w.lay(x.under(40) - 2)
			case 1:
				w.restart()
			case 2:
				w.lay(x.under(3) - 1)
				w.open()
			default:
				r := w.do(x.drawn())
				seen[r.Err]++
				if r.Err == api.ErrDown && x.under(2) == 0 {
					w.open()
				}
			}
		}
		w.open()
		w.open()
	}
	for _, err := range []api.Errno{api.OK, api.ErrDown, api.ErrSpace, api.ErrCall, api.ErrTwice, api.ErrLink, api.ErrUser, api.ErrRole, api.ErrArg, api.ErrDeadEnd, api.ErrAuth} {
		if seen[err] < 5 {
			t.Error("few calls were answered", err, ":", seen)
		}
	}
}

// P24.4: the younger one of two vaults holds all, and openings count for both.
func TestTheYoungerVaultHolds(t *testing.T) {
	w := ready(t, 300)
	older := w.v
	w.open()
	w.plays("user dan = 3")
	w.open()
	w.plays("user eve = 4\nwhois dan = 0")
	w.open()
	// Of the older one nothing is promised, but that its calls end.
	for _, c := range append(calls(good), calls(bad)...) {
		older.Do(c)
	}
	older.Len()
	older.Boots()
}

// Disks that are copied while the power is out open as the disk does.
func TestCopiesOfADisk(t *testing.T) {
	all := calls(day)
	for cut := range 60 {
		w := begun(t, 400)
		w.lay(cut)
		for _, c := range all {
			if w.do(c).Err == api.ErrDown {
				break
			}
		}
		v, err := vault.Open(loaded(t, w.d.Image()))
		if err != api.OK || v.Len() != len(w.records) || told(v.Do) != told(w.k.Do) {
			t.Fatal("cut behind", cut, err)
		}
	}
}
