package vault_test

import (
	"bytes"
	"testing"

	"provost/api"
	"provost/disk"
	"provost/vault"
)

// R2 and R4.

// loaded is a disk of these bytes.
func loaded(t *testing.T, image []byte) *disk.Disk {
	t.Helper()
	d, err := disk.Load(image)
	if err != api.OK {
		t.Fatal("Load:", err)
	}
	return d
}

// Lines are the caller's own, their spare room too.
func TestLinesAreTheCallersOwn(t *testing.T) {
	w := ready(t, 200)
	was, image := told(w.v.Do), w.d.Image()
	for _, c := range calls("inst 1|can ann 2|who sign 1|plan 1|log 1|whois ann|show pay|org|why 1|stuck") {
		lines := w.v.Do(c).Lines
		lines = lines[:cap(lines)]
		for i := range lines {
			lines[i] = "spoilt"
		}
	}
	if told(w.v.Do) != was || !bytes.Equal(w.d.Image(), image) {
		t.Error("an answer is shared")
	}
	w.open()
}

// The same script is answered the same, and leaves the same disk; what is done with one
// vault does not show in another one.
func TestVaultsAreApart(t *testing.T) {
	x, y, z := dice(1), dice(1), dice(2)
	one, other, third := begun(t, 400), begun(t, 400), begun(t, 400)
	for _, c := range calls(prelude) {
		one.does(c)
		other.does(c)
	}
	for i := range 300 {
		if i%50 == 20 {
			one.lay(7)
			other.lay(7)
		}
		if i%50 == 40 {
			one.open()
			other.open()
		}
		a := one.do(x.drawn())
		third.do(z.drawn())
		b := other.do(y.drawn())
		if said(a) != said(b) {
			t.Fatal(said(a), said(b))
		}
	}
	if !bytes.Equal(one.d.Image(), other.d.Image()) || told(one.v.Do) != told(other.v.Do) {
		t.Error("the same script, and other answers")
	}
	third.lay(0)
	third.do(of("user zoe"))
	one.restart()
	one.open()
	one.plays("user zoe = " + said(other.k.Do(of("user zoe"))))
}

// Who opens a disk twice is told the same twice.
func TestOpeningsTellTheSame(t *testing.T) {
	image := recorded(t, images(calls(day))...).Image()
	first, err := vault.Open(loaded(t, image))
	if err != api.OK {
		t.Fatal(err)
	}
	want := told(first.Do)
	for range 20 {
		d := loaded(t, image)
		for range 2 {
			v, err := vault.Open(d)
			if err != api.OK || told(v.Do) != want {
				t.Fatal(err)
			}
		}
	}
}
