package journal_test

import (
	"bytes"
	"testing"

	"provost/api"
	"provost/journal"
)

// R2: what is handed in stays as it is, its spare room too, and is not kept; what
// is told is the caller's own, its spare room too.

// roomy is a list in memory of its own, with spare room that is not zero.
func roomy(text string) []byte {
	whole := []byte(text + row(40, 0xEE))
	return whole[:len(text)]
}

// spoil writes into a list and into its spare room.
func spoil(l []byte) {
	l = l[:cap(l)]
	for i := range l {
		l[i] ^= 0x5A
	}
}

func TestArgumentsStayAndAreNotKept(t *testing.T) {
	for _, text := range []string{"", "abc", row(16, 'x'), row(17, 'y')} {
		for _, cut := range []int{-1, 0, 1, 2} {
			d := loaded(t, row(32, 0), 9, 2)
			j := opened(t, d)
			d.Fuse(cut)
			given := roomy(text)
			answer := j.Append(given)
			if now := string(given[:len(text)+40]); now != text+row(40, 0xEE) {
				t.Errorf("%q has become %q", text, now)
			}
			image := d.Image()
			spoil(given)
			if !bytes.Equal(d.Image(), image) {
				t.Error("the argument was kept")
			}
			d.Restart()
			if answer == api.OK {
				opened(t, d, text)
			} else {
				opened(t, d)
			}
		}
	}
}

func TestRecordsAreTheCallersOwn(t *testing.T) {
	all := []string{"abc", "", row(16, 'x'), row(17, 'y'), "", row(40, 'z')}
	d := loaded(t, laid(1, all...), 30, 0)
	_, one, _ := journal.Open(d)
	j, other, err := journal.Open(d)
	if err != api.OK || len(one) != len(all) || len(other) != len(all) {
		t.Fatal(err, len(one), len(other))
	}
	image := d.Image()
	for i := range all {
		spoil(one[i])
		for k := range all {
			if k > i && string(one[k]) != all[k] || string(other[k]) != all[k] {
				t.Errorf("record %d is spoilt with record %d", k, i)
			}
		}
	}
	clear(other[:cap(other)])
	if !bytes.Equal(d.Image(), image) || j.Len() != len(all) {
		t.Error("spoilt with an answer")
	}
	lays(t, j, "more", api.OK)
	opened(t, d, append(all, "more")...)
}

// R4: journals on two disks know nothing of each other, and the same script is
// answered the same.
func TestJournalsAreApart(t *testing.T) {
	x, y := dice(4), dice(4)
	one, other := loaded(t, row(32, 0), 60, 7), loaded(t, row(32, 0), 60, 7)
	j, k := opened(t, one), opened(t, other)
	third := opened(t, fresh(t, 9))
	for range 30 {
		if a, b := j.Append([]byte(x.record(40))), k.Append([]byte(y.record(40))); a != b {
			t.Fatal(a, b)
		}
	}
	if !bytes.Equal(one.Image(), other.Image()) || j.Len() != k.Len() || j.Room() != k.Room() {
		t.Error("the same script, and other answers")
	}
	one.Fuse(0)
	lays(t, j, "", api.ErrDown)
	lays(t, third, "", api.OK)
	says(t, third, 1, 1, 16*(9-2-2))
}
