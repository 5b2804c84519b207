package journal_test

import (
	"testing"

	"provost/api"
	"provost/journal"
)

// The chapter's runs and examples.

func TestRuns(t *testing.T) {
	d := fresh(t, 6)
	j := opened(t, d)
	says(t, j, 0, 1, 48)
	holds(t, d, "PJ\x01\x00\x00\x00\x00\x01\x00\x00\x00\x00\x00\x00\x00\x00")

	lays(t, j, "abc", api.OK)
	says(t, j, 1, 1, 16)
	holds(t, d, head(1)+"PR\x00\x00\x00\x00\x00\x03\x00\x00\x00\x00\x00\x00\x00\x01"+"abc\x00\x00\x00\x00\x00\x00\x00\x00\x00\x00\x00\x00\x00"+zeros)

	lays(t, j, row(17, 'x'), api.ErrSpace)
	lays(t, j, row(16, 'x'), api.OK)
	says(t, j, 2, 1, -1)
	lays(t, j, "", api.ErrSpace)

	says(t, opened(t, d, "abc", row(16, 'x')), 2, 2, -1)
}

func TestRunsWithPowerThatFails(t *testing.T) {
	d := fresh(t, 6)
	j := opened(t, d)
	d.Fuse(2)
	lays(t, j, "abc", api.ErrDown)
	d.Restart()
	opened(t, d)

	d = fresh(t, 6)
	j = opened(t, d)
	d.Fuse(3)
	lays(t, j, "abc", api.OK)
	if d.Power() {
		t.Error("the power has not failed")
	}
	d.Restart()
	opened(t, d, "abc")

	d = fresh(t, 6)
	j = opened(t, d)
	d.Fuse(1)
	lays(t, j, row(32, 1), api.ErrDown)
	d.Restart()
	j = opened(t, d)
	lays(t, j, "abc", api.OK)
	d.Restart()
	opened(t, d, "abc")
}

func TestRunsThatAreRefused(t *testing.T) {
	refuses(t, loaded(t, row(16, 1), 6, 0), api.ErrCorrupt)
	opened(t, loaded(t, row(5*16, 0), 6, 1))
	if j, records, err := journal.Open(nil); j != nil || records != nil || err != api.ErrArg {
		t.Error("Open(nil):", j, records, err)
	}
	refuses(t, fresh(t, 1), api.ErrSpace)
	d := fresh(t, 6)
	d.Fuse(0)
	refuses(t, d, api.ErrDown)
}

func TestEmptyRecords(t *testing.T) {
	d := loaded(t, row(32, 0), 6, 9)
	j := opened(t, d)
	writes := d.Writes()
	lays(t, j, "", api.OK)
	if d.Writes() != writes+2 {
		t.Error("an empty record took", d.Writes()-writes, "writes")
	}
	holds(t, d, head(1)+title(0, 1)+zeros+row(3*16, 9))
	if err := j.Append([]byte{}); err != api.OK {
		t.Error("another one:", err)
	}
	opened(t, d, "", "")
}

// Nothing is read that stands behind the end, and the head's openings wrap.
func TestBoots(t *testing.T) {
	for _, was := range []uint32{0, 1, 2, 254, 255, 256, 65535, 1<<31 - 1, 1 << 31, 1<<32 - 2, 1<<32 - 1} {
		for _, records := range [][]string{nil, {"abc", ""}} {
			d := loaded(t, laid(was, records...), 9, 7)
			j := opened(t, d, records...)
			if j.Boots() != int(was+1) || d.Writes() != 1 {
				t.Errorf("behind %d: Boots %d, Writes %d", was, j.Boots(), d.Writes())
			}
			holds(t, d, laid(was+1, records...))
			if was == 1<<32-1 && j.Boots() != 0 {
				t.Error("the openings do not wrap:", j.Boots())
			}
			if other := opened(t, d, records...); other.Boots() != int(was+2) {
				t.Errorf("behind %d and another one: Boots %d", was, other.Boots())
			}
		}
	}
}

// What a disk was before it was opened, of whatever size, stays behind the end.
func TestOpenWritesTheHeadAlone(t *testing.T) {
	for _, blocks := range []int{2, 3, 4, 100, 65536} {
		d := loaded(t, row(32, 0), blocks, 0xFF)
		opened(t, d)
		holds(t, d, head(1)+zeros+row(16*(blocks-2), 0xFF))
		if d.Writes() != 1 {
			t.Error("Writes:", d.Writes())
		}
	}
}
