package vault_test

import (
	"testing"

	"provost/api"
	"provost/journal"
	"provost/vault"
)

// The chapter's runs and examples, and those of the whole.

// opens opens the disk anew, and holds the vault's counts against what they must be.
func opens(t *testing.T, w *world, length, boots int) {
	t.Helper()
	w.open()
	if w.v.Len() != length || w.v.Boots() != boots {
		t.Errorf("Len %d, Boots %d; not %d, %d", w.v.Len(), w.v.Boots(), length, boots)
	}
}

func TestRuns(t *testing.T) {
	w := begun(t, 40)
	w.plays("user ann = 0\nrole r = 0\nuser ann = twice\nnow = 1")
	if w.v.Len() != 2 || w.v.Boots() != 1 {
		t.Error(w.v.Len(), w.v.Boots())
	}
	opens(t, w, 2, 2)
	w.plays("org = 1 org 1|user ann|role r|end")

	w.lay(0)
	w.plays("user bob = no power\nnow = no power")
	w.restart()
	w.plays("now = no power")
	opens(t, w, 2, 3)
	w.plays("org = 1 org 1|user ann|role r|end")

	w.lay(4)
	w.plays("user bob = 1\norg = 2 org 1|user ann|user bob|role r|end")
	w.restart()
	opens(t, w, 3, 4)
	w.plays("org = 2 org 1|user ann|user bob|role r|end")
}

func TestRunOfAUsersImage(t *testing.T) {
	w := begun(t, 40)
	w.plays("user ann = 0")
	if got := string(w.d.Image()[32:64]); got != "\x02\x00\x00\x00\x00\x00\x00\x00\x00\x03ann\x00\x00\x00\x00\x00\x00"+"\x00\x00\x00\x00\x00\x00\x00\x00\x00\x00\x00\x00\x00" {
		t.Errorf("%q", got)
	}
	if n := w.d.Image()[23]; n != 19 || w.d.Writes() != 1+4 {
		t.Error("bytes", n, "writes", w.d.Writes())
	}
}

func TestRunOfWhatIsNotTaken(t *testing.T) {
	w := begun(t, 40)
	w.does(api.Call{Op: 2, A: "cyd", B: "x", N: 7, Text: "y"})
	_, records, err := journal.Open(w.d)
	if err != api.OK || len(records) != 1 || string(records[0]) != written(api.Call{Op: 2, A: "cyd"}) {
		t.Errorf("%q, %v", records, err)
	}
}

func TestRunOfNoSpace(t *testing.T) {
	w := begun(t, 4)
	w.plays("user ann = no space\nnow = 1")
	if w.v.Len() != 0 {
		t.Error(w.v.Len())
	}
}

func TestRunsOfCorruptRecords(t *testing.T) {
	for _, r := range []string{"x", written(api.Call{Op: 40})} {
		if v, err := vault.Open(recorded(t, r)); v != nil || err != api.ErrCorrupt {
			t.Errorf("%q: %v", r, err)
		}
	}
}

func TestExamples(t *testing.T) {
	w := begun(t, 20)
	w.lay(0)
	w.plays("now = 1\norg = 0 org 1|end")
	w.restart()
	w.plays("user ann = 0")
	writes := w.d.Writes()
	w.plays("user ann = twice\nuser A = bad name\ntick 0 = bad argument")
	if w.d.Writes() != writes {
		t.Error("a refused call costs", w.d.Writes()-writes)
	}
}

// Example 9 of the whole.
func TestPowerBehindTheThirdOfFourWrites(t *testing.T) {
	for cut := range 6 {
		w := begun(t, 20)
		w.lay(cut)
		want, lines := "no power", "0 org 1|end"
		if cut >= 4 {
			want, lines = "0", "1 org 1|user cyd|end"
		}
		w.plays("user cyd = " + want)
		w.restart()
		w.open()
		w.plays("org = " + lines)
	}
}
