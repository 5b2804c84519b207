package vault_test

import (
	"bytes"
	"fmt"
	"strings"
	"testing"

	"provost/api"
	"provost/desk"
	"provost/disk"
	"provost/journal"
	"provost/vault"
)

// P24.1

// prelude are calls behind which each call of good is answered OK, and each of bad is
// refused.
const prelude = "user ann|user bob|user cyd|role r|role s|role t|over r s|grant r ask|grant s approve|join ann r|join bob s|" +
	"bar cyd ask|lend bob cyd 5|rest cyd|" +
	"flow pay;step ask;step sign needs approve after ask;apart ask, sign;end|" +
	"flow solo;step a needs approve;step b needs ask;apart a, b;end|start pay|start pay|start solo|claim ann ask 1"

// good are calls of each Op, by their numbers.
const good = "tick 4|user dan|nouser bob|role u|norole s|join cyd t|leave bob s|over s t|noover r s|grant t pay|revoke r ask|" +
	"bar ann x|unbar cyd ask|lend ann bob 3|back bob cyd|rest ann|wake cyd|flow one;step a;end|start solo|claim ann ask 2|" +
	"done ann ask 1|abort 2"

// bad are calls of each Op that a desk refuses.
const bad = `tick 0|tick -1|tick 999999999|user ann|user A|user ""|nouser dan|nouser ""|role r|role R|norole u|join ann r|join dan r|join ann u|` +
	`leave cyd r|leave cyd u|over s r|over r r|over r s|over r u|noover s r|grant r ask|grant r A|grant u ask|revoke r zed|bar cyd ask|` +
	`bar ann A|unbar ann ask|lend ann ann 3|lend bob cyd 3|lend ann bob 0|lend ann bob 999999999|lend ann dan 3|back ann bob|rest cyd|` +
	`rest dan|wake ann|flow pay;step a;end|flow one|flow one;step A;end|start zed|start ""|claim ann ask 9|claim dan ask 2|claim ann zed 2|` +
	`claim bob ask 1|claim bob sign 1|claim bob ask 2|claim ann a 3|done ann ask 9|done dan ask 1|done ann zed 1|done bob ask 1|` +
	`done ann sign 1|abort 0|abort 4`

// opensAs opens a disk of these records, which must tell what a desk tells that did
// these calls.
func opensAs(t *testing.T, records []string, l []api.Call) {
	t.Helper()
	k := desk.New()
	for _, c := range l {
		k.Do(c)
	}
	v, err := vault.Open(recorded(t, records...))
	if err != api.OK || v == nil {
		t.Fatalf("%.300q: %v", records, err)
	}
	if v.Len() != len(records) || v.Boots() != 2 {
		t.Errorf("Len %d, Boots %d; not %d, 2", v.Len(), v.Boots(), len(records))
	}
	if got, want := told(v.Do), told(k.Do); got != want {
		t.Errorf("%.300q: told is %s; not %s", records, got, want)
	}
}

// isCorrupt opens a disk of these records: it must be refused, the opening counts, and
// the records stay as they are.
func isCorrupt(t *testing.T, records ...string) {
	t.Helper()
	d := recorded(t, records...)
	writes, image := d.Writes(), d.Image()
	for boots := 2; boots < 4; boots++ {
		if v, err := vault.Open(d); v != nil || err != api.ErrCorrupt {
			t.Errorf("%.300q: %v", records, err)
		}
		if writes++; d.Writes() != writes || !bytes.Equal(d.Image()[16:], image[16:]) {
			t.Errorf("%.300q: something else than the head was written", records)
		}
		if d.Image()[7] != byte(boots) {
			t.Errorf("%.300q: the opening does not count", records)
		}
	}
}

func TestRecordsOfEachOp(t *testing.T) {
	before := calls(prelude)
	opensAs(t, images(before), before)
	for i, c := range calls(good) {
		if c.Op != i+1 {
			t.Fatal("no call of each Op:", c)
		}
		all := append(calls(prelude), c)
		opensAs(t, images(all), all)
		opensAs(t, images(append(all, of("role v"))), append(all, of("role v")))
	}
}

func TestRecordsOfAllOpsTogether(t *testing.T) {
	all := calls(prelude + "|tick 4|user dan|wake cyd|back bob cyd|done ann ask 1|claim bob sign 1|nouser bob|done bob sign 1|abort 2|role u|over t u|noover t u|norole u")
	opensAs(t, images(all), all)
	for n := range all {
		opensAs(t, images(all[:n]), all[:n])
	}
}

// Something stands in a field that the Op does not take.
func TestRecordsThatAreNotBare(t *testing.T) {
	for _, c := range calls(good) {
		for _, other := range strewn(c) {
			isCorrupt(t, append(images(calls(prelude)), written(other))...)
			isCorrupt(t, append(images(calls(prelude)), written(other), written(of("role v")))...)
		}
	}
}

func TestRecordsThatTheDeskRefuses(t *testing.T) {
	for _, c := range calls(bad) {
		isCorrupt(t, append(images(calls(prelude)), written(c))...)
		isCorrupt(t, append(images(calls(prelude)), written(c), written(of("role v")))...)
	}
	for _, lines := range []string{"user ann|user ann", "user A", "join ann r", "tick 999999999", "tick 5|lend ann bob 3", "start pay|" + prelude, "abort 1", "norole r|role r"} {
		isCorrupt(t, images(calls(lines))...)
	}
	isCorrupt(t, append(images(calls(prelude)), images(calls(prelude))...)...)
	isCorrupt(t, images(calls(prelude))[1:]...)
}

// What is too much for a desk is too much for a journal.
func TestRecordsThatAreTooMany(t *testing.T) {
	var l []api.Call
	for i := range 64 {
		l = append(l, of(fmt.Sprint("user u", i)), of(fmt.Sprint("role r", i)))
	}
	opensAs(t, images(l), l)
	isCorrupt(t, append(images(l), written(of("user u64")))...)
	isCorrupt(t, append(images(l), written(of("role r64")))...)
	l = append(l, of("nouser u3"), of("user u3"))
	opensAs(t, images(l), l)
}

// Calls that ask, of which a desk answers each OK, and calls of other Ops.
func TestRecordsThatChangeNothing(t *testing.T) {
	for op := 23; op < 256; op++ {
		isCorrupt(t, written(api.Call{Op: op}))
	}
	for _, c := range calls("inst 1|can ann 1|who ask 1|plan 1|why 1|log 1|whois ann|show pay|org|stuck|now") {
		isCorrupt(t, append(images(calls(prelude)), written(c))...)
	}
}

func TestRecordsThatAreNoImages(t *testing.T) {
	whole := written(of("user ann"))
	for n := range whole {
		isCorrupt(t, whole[:n])
	}
	for _, r := range []string{whole + "\x00", whole + whole, "\x00" + whole[1:], "\x00" + strings.Repeat("\x00", 15), strings.Repeat("\xff", 19), whole[:9] + "\x04ann" + whole[13:], "user ann\n"} {
		isCorrupt(t, r)
		isCorrupt(t, written(of("role r")), r, written(of("role s")))
	}
}

// The record behind the last one that is good need not be looked at to refuse, nor may
// it be left out: there is no vault of the calls ahead of it.
func TestOneBadRecordAtEachPlace(t *testing.T) {
	for i := range calls(prelude) {
		l := images(calls(prelude))
		l[i] += "\x00"
		isCorrupt(t, l...)
	}
}

func TestLongRecords(t *testing.T) {
	long := of("flow long;step a;#" + strings.Repeat("x", api.MaxText) + ";end")
	long.Text = long.Text[len(long.Text)-api.MaxText+len("flow long\nstep a\n#"):]
	long.Text = "flow long\nstep a\n#" + long.Text
	if len(long.Text) != api.MaxText {
		t.Fatal(len(long.Text))
	}
	opensAs(t, []string{written(long)}, []api.Call{long})
	long.Text += "\n"
	isCorrupt(t, written(long))
	isCorrupt(t, strings.Repeat("\x01", api.MaxRecord))
}

// What a journal refuses is refused so, and nothing is written.
func TestOpenRefusesWhatAJournalRefuses(t *testing.T) {
	if v, err := vault.Open(nil); v != nil || err != api.ErrArg {
		t.Error("of nil:", err)
	}
	dark := func(d *disk.Disk) *disk.Disk { d.Fuse(0); return d }
	marked := func(block int, b byte) *disk.Disk {
		d := newDisk(t, 9)
		d.Write(block, bytes.Repeat([]byte{b}, 16))
		return d
	}
	torn := func(at int, b byte) *disk.Disk {
		raw := recorded(t, written(of("user ann")), written(of("role r"))).Image()
		raw[at] ^= b
		d, _ := disk.Load(raw)
		return d
	}
	for i, x := range []struct {
		d   *disk.Disk
		err api.Errno
	}{
		{newDisk(t, 1), api.ErrSpace}, {dark(newDisk(t, 1)), api.ErrSpace}, {dark(newDisk(t, 2)), api.ErrDown}, {dark(recorded(t, "x")), api.ErrDown},
		{marked(0, 1), api.ErrCorrupt}, {marked(1, 1), api.ErrCorrupt}, {dark(marked(0, 1)), api.ErrDown}, {torn(0, 1), api.ErrCorrupt}, {torn(3, 1), api.ErrCorrupt},
		{torn(15, 1), api.ErrCorrupt}, {torn(16, 1), api.ErrCorrupt}, {torn(23, 64), api.ErrCorrupt}, {torn(31, 1), api.ErrCorrupt}, {torn(63, 1), api.ErrCorrupt}, {torn(64, 1), api.ErrCorrupt},
	} {
		image, writes, power := x.d.Image(), x.d.Writes(), x.d.Power()
		if v, err := vault.Open(x.d); v != nil || err != x.err {
			t.Errorf("row %d: %v, not %v", i, err, x.err)
		}
		if !bytes.Equal(image, x.d.Image()) || writes != x.d.Writes() || power != x.d.Power() {
			t.Errorf("row %d: the disk has changed", i)
		}
	}
	if v, err := vault.Open(marked(2, 1)); v == nil || err != api.OK {
		t.Error("what stands behind the end:", err)
	}
}

// An opening is one write; the power may fail behind it.
func TestOpenWritesTheHeadAlone(t *testing.T) {
	d := recorded(t, images(calls(prelude))...)
	image, writes := d.Image(), d.Writes()
	d.Fuse(1)
	v, err := vault.Open(d)
	if err != api.OK || d.Writes() != writes+1 || d.Power() || !bytes.Equal(d.Image()[16:], image[16:]) {
		t.Fatal(err, d.Writes()-writes, d.Power())
	}
	if got := said(v.Do(of("can ann 2"))); got != "1 ask" {
		t.Error(got)
	}
	if got := said(v.Do(of("user dan"))); got != "no power" {
		t.Error(got)
	}
}

// P24.3: Boots is the journal's, which wraps.
func TestBootsWrap(t *testing.T) {
	raw := recorded(t, written(of("user ann"))).Image()
	copy(raw[4:8], "\xff\xff\xff\xfe")
	d, _ := disk.Load(raw)
	for _, want := range []int{1<<32 - 1, 0, 1} {
		v, err := vault.Open(d)
		if err != api.OK || v.Boots() != want || v.Len() != 1 {
			t.Fatal(err, v.Boots(), "not", want)
		}
	}
	if j, _, err := journal.Open(d); err != api.OK || j.Boots() != 2 {
		t.Error(err)
	}
}
