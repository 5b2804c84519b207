package journal_test

import (
	"slices"
	"testing"

	"provost/api"
	"provost/disk"
	"provost/journal"
)

// P20.6

// trial plays openings and appends on a disk, and keeps what the chapter says that
// must be told.
type trial struct {
	t     *testing.T
	d     *disk.Disk
	j     *journal.Journal
	kept  []string // those whose Append was answered OK
	maybe []string // the first one since the last opening that was answered ErrDown
}

// open opens anew, and holds the records against what is kept.
func (x *trial) open() {
	x.t.Helper()
	j, records, err := journal.Open(x.d)
	if err != api.OK {
		x.t.Fatal("Open:", err)
	}
	got := texts(records)
	if !slices.Equal(got, x.kept) && !slices.Equal(got, append(slices.Clip(x.kept), x.maybe...)) {
		x.t.Fatalf("Open: %q; kept are %q, and perhaps %q", got, x.kept, x.maybe)
	}
	x.j, x.kept, x.maybe = j, got, nil
}

func (x *trial) lay(record string) api.Errno {
	x.t.Helper()
	err := x.j.Append([]byte(record))
	switch {
	case err == api.OK:
		x.kept = append(x.kept, record)
	case err == api.ErrDown && x.maybe == nil:
		x.maybe = []string{record}
	case err != api.ErrDown && err != api.ErrSpace:
		x.t.Fatal("Append:", err)
	}
	if x.j.Len() != len(x.kept) {
		x.t.Fatal("Len:", x.j.Len(), "not", len(x.kept))
	}
	return err
}

// again gives power and opens.
func (x *trial) again() {
	x.t.Helper()
	x.d.Restart()
	x.open()
}

// script lays records. The power fails behind so many writes as the first cut says,
// an opening's too, then behind so many as the second one says; it is given again at
// once, or, if that is to be late, when all records were tried.
func (x *trial) script(records []string, cuts []int, late bool) {
	x.t.Helper()
	next := func() {
		x.d.Restart()
		if len(cuts) > 0 {
			x.d.Fuse(cuts[0])
			cuts = cuts[1:]
		}
		x.open()
	}
	next()
	for _, r := range records {
		if x.lay(r) == api.ErrDown && !late {
			next()
		}
	}
	x.again()
	x.again()
}

// The power fails behind each write of a script, and again behind each one from there on.
func TestPowerThatFailsBehindEachWrite(t *testing.T) {
	records := []string{"abc", "", title(0, 3) + zeros, row(33, 'x'), zeros + title(1, 2) + filled("y"), "z"}
	for _, behind := range []byte{0, 0x50, 0xFF} {
		for first := 1; first < 26; first++ { // without a write there is no opening
			for second := 1; second < 26; second++ {
				for _, late := range []bool{false, true} {
					x := &trial{t: t, d: loaded(t, row(32, 0), 30, behind)}
					x.script(records, []int{first, second}, late)
				}
			}
		}
	}
}

// What an Append left behind the end when the power failed is not taken for a
// record, though it look like one once the next title stands ahead of it.
func TestLeftoversThatLookLikeRecords(t *testing.T) {
	for _, fake := range []string{
		title(0, 2), title(0, 1), title(0, 2) + title(0, 3), title(3, 2) + filled("abc"), zeros + title(0, 2) + title(0, 3) + title(0, 4),
		row(16, 'q') + title(0, 2) + title(0, 3),
	} {
		for cut := range len(fake)/16 + 2 {
			for _, next := range []string{"", "a", row(16, 'b'), row(17, 'c'), row(32, 'd'), row(48, 'e')} {
				x := &trial{t: t, d: loaded(t, row(32, 0), 20, 0xFF)}
				x.open()
				x.d.Fuse(cut)
				if err := x.lay(fake); err != api.ErrDown {
					t.Fatal("cut behind", cut, err)
				}
				x.again()
				if len(x.kept) != 0 {
					t.Fatalf("told is %q", x.kept)
				}
				if err := x.lay(next); err != api.OK {
					t.Fatal(err)
				}
				x.again()
				if !slices.Equal(x.kept, []string{next}) {
					t.Fatalf("told is %q", x.kept)
				}
			}
		}
	}
}

// Drawn scripts, with power that fails any number of times, of openings too.
func TestDrawnScripts(t *testing.T) {
	x := dice(20)
	down, space, ok, openings := 0, 0, 0, 0
	for i := range 400 {
		blocks := 2 + x.draw(60)
		p := &trial{t: t, d: loaded(t, row(32, 0), blocks, byte(i))}
		p.open()
		for range 60 {
			switch x.draw(8) {
			case 0:
				p.d.Fuse(x.draw(12))
			case 1:
				p.d.Restart()
				p.d.Fuse(x.draw(3) - 1)
				if !p.d.Power() {
					refuses(t, p.d, api.ErrDown)
					p.d.Restart()
				}
				p.open()
				openings++
			default:
				switch p.lay(x.record(50)) {
				case api.OK:
					ok++
				case api.ErrDown:
					down++
				case api.ErrSpace:
					space++
				}
			}
		}
		p.again()
		if got, _, _, is := told(string(p.d.Image())); !is || !slices.Equal(got, p.kept) {
			t.Fatalf("the disk holds %q; not %q", got, p.kept)
		}
	}
	if down < 500 || space < 500 || ok < 500 || openings < 500 {
		t.Error("few of some kind:", down, space, ok, openings)
	}
}
