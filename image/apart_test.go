package image_test

import (
	"testing"

	"provost/api"
	"provost/image"
)

// R2: what is handed in stays as it is, its spare room too, and is not kept; what
// is told is the caller's own, its spare room too.

// spoil writes into a list and into its spare room.
func spoil(l []byte) {
	l = l[:cap(l)]
	for i := range l {
		l[i] ^= 0x5A
	}
}

func TestReadLeavesItsArgument(t *testing.T) {
	for _, text := range []string{annSigns, annSigns + "\x00", annSigns[:20], "", "\x00" + annSigns[1:]} {
		all := []byte(text + row(40, 0xEE))
		given := all[:len(text)]
		c, err := image.Read(given)
		if string(all) != text+row(40, 0xEE) {
			t.Errorf("%q has become %q", text, all)
		}
		want, is := read(text)
		spoil(given)
		if c != want || (err == api.OK) != is {
			t.Errorf("%q: %v, %v behind a change of what was read", text, brief(c), err)
		}
	}
}

// A spare room that would make the bytes whole is not looked at.
func TestReadPassesOverSpareRoom(t *testing.T) {
	all := []byte(annSigns)
	for n := range all {
		if c, err := image.Read(all[:n]); c != (api.Call{}) || err != api.ErrForm {
			t.Error(n, brief(c), err)
		}
	}
}

func TestReadOfNil(t *testing.T) {
	for _, raw := range [][]byte{nil, {}} {
		if c, err := image.Read(raw); c != (api.Call{}) || err != api.ErrForm {
			t.Error(brief(c), err)
		}
	}
}

func TestBytesAreTheCallersOwn(t *testing.T) {
	for _, c := range []api.Call{{Op: 1}, {Op: 20, A: "ann", B: "sign", N: 3}, {Op: 18, Text: row(65536, 't')}} {
		one, _ := image.Write(c)
		other, _ := image.Write(c)
		spoil(one)
		if string(other) != written(c) {
			t.Error("two answers share memory:", brief(c))
		}
		writes(t, c, written(c))
		again, err := image.Read(other)
		spoil(other)
		if again != c || err != api.OK {
			t.Error("the call hangs on the bytes:", brief(again), err)
		}
	}
}

// R4: the same call is answered the same, whatever was asked ahead of it.
func TestCallsAreApart(t *testing.T) {
	d := dice(5)
	for range 300 {
		image.Write(d.call())
		image.Read([]byte(d.text(d.under(40))))
		writes(t, api.Call{Op: 20, A: "ann", B: "sign", N: 3}, annSigns)
		reads(t, annSigns, api.Call{Op: 20, A: "ann", B: "sign", N: 3})
	}
}
