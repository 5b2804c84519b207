package journal_test

import (
	"strings"
	"testing"

	"provost/api"
	"provost/disk"
	"provost/journal"
)

// P20.1 and P20.2

// agrees opens a disk of an image, and holds what it does against the model.
func agrees(t *testing.T, image string) {
	t.Helper()
	records, boots, end, is := told(image)
	d, _ := disk.Load([]byte(image))
	if !is {
		refuses(t, d, api.ErrCorrupt)
		return
	}
	j := opened(t, d, records...)
	room := 16 * (len(image)/16 - 2 - end)
	says(t, j, len(records), int(boots+1), max(room, -1))
	holds(t, d, head(boots+1)+image[16:])
	if d.Writes() != 1 {
		t.Error("Writes:", d.Writes())
	}
}

// Of whatever image each byte is turned to each other one, on disks that are as
// long as the journal, and on longer ones.
func TestEachByte(t *testing.T) {
	opens := 0
	for _, image := range []string{
		laid(1),
		laid(7, ""),
		laid(1<<32-1, "abc", row(16, 'y')),
		laid(258, "", row(17, 'z'), ""),
		laid(3, title(3, 2)+"abc", "d") + title(1, 3) + filled("e") + zeros,
		row(32, 0) + title(0, 1) + zeros,
		zeros + title(0, 1) + zeros,
		head(0) + row(16, 0),
	} {
		for _, behind := range []string{"", zeros, row(16, 255), title(0, 1) + zeros, title(0, 4) + zeros + zeros} {
			whole := image + behind
			agrees(t, whole)
			for at := range len(whole) {
				for to := range 256 {
					turned := whole[:at] + string([]byte{byte(to)}) + whole[at+1:]
					agrees(t, turned)
					if _, _, _, is := told(turned); is {
						opens++
					}
				}
				if t.Failed() {
					t.Fatalf("%q, byte %d", whole, at)
				}
			}
		}
	}
	if opens < 1000 {
		t.Error("only", opens, "of them open")
	}
}

// A journal whose disk is cut off behind any block opens just if its end is there.
func TestDisksThatAreCutOff(t *testing.T) {
	whole := laid(4, "abc", row(40, 'x'), "", row(16, 'y')) + row(32, 6)
	for blocks := 2; blocks <= len(whole)/16; blocks++ {
		agrees(t, whole[:16*blocks])
	}
	refuses(t, loaded(t, laid(4, "abc")[:3*16], 3, 0), api.ErrCorrupt)
	refuses(t, loaded(t, laid(4, "abc")[:2*16], 2, 0), api.ErrCorrupt)
	refuses(t, loaded(t, laid(4, "")[:2*16], 2, 0), api.ErrCorrupt)
}

// Where the head is zeros nothing but zeros may stand at block 1, though it were
// the form of a record.
func TestHeadsOfZeros(t *testing.T) {
	for _, first := range []string{title(0, 1), title(3, 1) + filled("abc"), row(16, 1), zeros[:15] + "\x01", "\x01" + zeros[:15]} {
		refuses(t, loaded(t, zeros+first+zeros, 6, 0), api.ErrCorrupt)
	}
	opened(t, loaded(t, zeros+zeros+title(0, 1), 6, 5))
}

func TestWrongTitles(t *testing.T) {
	for _, x := range []string{
		title(0, 0), title(0, 2), title(0, 1<<32+1), title(0, 1<<63+1), title(0, 1<<64-1),
		title(131073, 1), title(1<<31, 1), title(1<<31-1, 1), title(1<<32-1, 1), title(1<<32-16, 1), title(1<<24, 1),
		"RP" + title(0, 1)[2:], "PJ" + title(0, 1)[2:], "PR\x01\x00" + title(0, 1)[4:], "PR\x00\x01" + title(0, 1)[4:],
		head(1), strings.ToLower(title(0, 1)),
	} {
		refuses(t, loaded(t, head(1)+x, 9000, 0), api.ErrCorrupt)
	}
	refuses(t, loaded(t, head(1)+title(0, 1)+title(0, 1), 9, 0), api.ErrCorrupt)
	refuses(t, loaded(t, head(1)+title(0, 1)+title(0, 3), 9, 0), api.ErrCorrupt)
	refuses(t, loaded(t, head(1)+title(0, 2)+title(0, 1), 9, 0), api.ErrCorrupt)
	opened(t, loaded(t, head(1)+title(0, 1)+title(0, 2), 9, 0), "", "")
}

// Behind a record's last byte there are zeros, in each place of its last block.
func TestWhatStandsBehindARecord(t *testing.T) {
	for n := range 34 {
		for at := n; at < (n+15)/16*16; at++ {
			bad := []byte(laid(1, "ahead", row(n, 'x')))
			bad[4*16+at] = 1
			refuses(t, loaded(t, string(bad), 12, 0), api.ErrCorrupt)
		}
		opened(t, loaded(t, laid(1, "ahead", row(n, 'x')), 12, 0), "ahead", row(n, 'x'))
	}
}

func TestTheLongestRecord(t *testing.T) {
	for _, n := range []int{131071, 131072} {
		r := strings.Repeat("z\x00", 65536)[:n]
		j := opened(t, loaded(t, laid(5, r), 8195, 0), r)
		says(t, j, 1, 6, -1)
		refuses(t, loaded(t, laid(5, r)[:8194*16], 8194, 0), api.ErrCorrupt)
		opened(t, loaded(t, laid(5, r, "abc"), 9000, 0), r, "abc")
	}
	refuses(t, loaded(t, laid(5, row(131073, 'z')), 9000, 0), api.ErrCorrupt)
}

// Of what applies, what is named first is told.
func TestWhichErrorOpenTells(t *testing.T) {
	for _, power := range []bool{true, false} {
		for _, first := range []string{zeros, head(1), row(16, 1)} {
			d := loaded(t, first, 1, 0)
			if !power {
				d.Fuse(0)
			}
			refuses(t, d, api.ErrSpace)
		}
	}
	for _, image := range []string{laid(1, "abc"), row(64, 1), zeros + zeros, laid(1, "abc")[:32]} {
		d := loaded(t, image, len(image)/16, 0)
		d.Fuse(0)
		refuses(t, d, api.ErrDown)
	}
	if j, records, err := journal.Open(nil); j != nil || len(records) != 0 || err != api.ErrArg {
		t.Error("Open(nil):", err)
	}
}

// The opening's one write may be the last one.
func TestPowerThatFailsBehindAnOpening(t *testing.T) {
	d := loaded(t, laid(1, "abc"), 9, 8)
	for i := range 5 {
		d.Fuse(1)
		j := opened(t, d, "abc")
		if d.Power() || j.Boots() != 2+i {
			t.Error("Power, Boots:", d.Power(), j.Boots())
		}
		lays(t, j, "", api.ErrDown)
		refuses(t, d, api.ErrDown)
		d.Restart()
	}
	holds(t, d, laid(6, "abc")+row(16, 8))
}
