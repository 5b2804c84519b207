package disk_test

import (
	"bytes"
	"testing"

	"provost/api"
	"provost/disk"
)

// R2: what is handed in stays as it is, its spare room too, and is not kept; what
// is told is the caller's own, its spare room too.

// roomy is a list in memory of its own, with spare room that is not zero.
func roomy(l []byte) []byte {
	whole := append(bytes.Clone(l), row(40, 0xEE)...)
	return whole[:len(l)]
}

// memory is all that stands in a list's memory, its spare room too.
func memory(l []byte) string { return string(l[:cap(l)]) }

// spoil writes into a list and into its spare room.
func spoil(l []byte) {
	l = l[:cap(l)]
	for i := range l {
		l[i] ^= 0x5A
	}
}

func TestArgumentsStay(t *testing.T) {
	given, data, short := roomy(image(1, 2, 3)), roomy(block(7)), roomy(row(15, 8))
	was := memory(given) + memory(data) + memory(short)
	d := loaded(t, given)
	disk.Load(given[:47])
	for range 2 {
		d.Write(1, data)
		d.Write(2, short)
		d.Write(3, data)
		d.Write(2, block(9))
		d.Fuse(0)
		d.Write(0, data)
		d.Restart()
	}
	if now := memory(given) + memory(data) + memory(short); now != was {
		t.Errorf("%q has become %q", was, now)
	}
}

func TestArgumentsAreNotKept(t *testing.T) {
	given, data := roomy(image(1, 2, 3)), roomy(block(7))
	d := loaded(t, given)
	spoil(given)
	d.Write(1, data)
	spoil(data)
	if got := d.Image(); !bytes.Equal(got, image(1, 7, 3)) {
		t.Error(got)
	}
	script{{read(0), answer{told: string(block(1))}}, {read(1), answer{told: string(block(7))}}}.play(t, d)
}

func TestAnswersAreTheCallersOwn(t *testing.T) {
	d := loaded(t, image(1, 2, 3))
	for i := range 3 {
		first, _ := d.Read(i)
		again, _ := d.Read(i)
		whole, other := d.Image(), d.Image()
		spoil(again)
		spoil(other)
		if !bytes.Equal(first, block(byte(i+1))) || !bytes.Equal(whole, image(1, 2, 3)) {
			t.Fatalf("spoilt with another answer: %v, %v", first, whole)
		}
		spoil(first)
		spoil(whole)
		if !bytes.Equal(d.Image(), image(1, 2, 3)) {
			t.Fatal("spoilt with an answer:", d.Image())
		}
	}
}

func TestTheLargestDisksImage(t *testing.T) {
	d, _ := disk.New(65536)
	d.Write(65535, block(7))
	want := append(row(65535*16, 0), block(7)...)
	spoil(d.Image())
	if !bytes.Equal(d.Image(), want) {
		t.Error("spoilt with an answer")
	}
}

// What was told stays, whatever is written behind it.
func TestAnswersStay(t *testing.T) {
	d := loaded(t, image(1, 2))
	told, _ := d.Read(0)
	whole := d.Image()
	d.Write(0, block(9))
	d.Write(1, block(9))
	if !bytes.Equal(told, block(1)) || !bytes.Equal(whole, image(1, 2)) {
		t.Error(told, whole)
	}
}

// What one call told may be handed in to another one.
func TestAnswersAsArguments(t *testing.T) {
	d := loaded(t, image(1, 2))
	told, _ := d.Read(0)
	d.Write(1, told)
	spoil(told)
	whole := d.Image()
	other := loaded(t, whole)
	spoil(whole)
	for _, x := range []*disk.Disk{d, other} {
		if got := x.Image(); !bytes.Equal(got, image(1, 1)) {
			t.Error(got)
		}
	}
}

// R4: two disks know nothing of each other, though they were loaded from one image.
func TestDisksAreApart(t *testing.T) {
	given := image(1, 2)
	one, other := loaded(t, given), loaded(t, given)
	one.Write(0, block(7))
	one.Fuse(0)
	if !other.Power() || other.Writes() != 0 || !bytes.Equal(other.Image(), image(1, 2)) {
		t.Error("the other one:", other.Power(), other.Writes(), other.Image())
	}
	other.Restart()
	other.Fuse(3)
	if one.Power() || one.Writes() != 1 || !bytes.Equal(one.Image(), image(7, 2)) {
		t.Error("the one:", one.Power(), one.Writes(), one.Image())
	}
	one.Restart()
	if got := last(t, one, 9); got != 9 {
		t.Error("the other one's fuse:", got)
	}
	if got := last(t, other, 9); got != 3 {
		t.Error("its own fuse:", got)
	}
}

func TestNewDisksAreApart(t *testing.T) {
	one, _ := disk.New(2)
	other, _ := disk.New(2)
	one.Write(0, block(7))
	if third, err := disk.New(2); err != api.OK || !bytes.Equal(third.Image(), image(0, 0)) || !bytes.Equal(other.Image(), image(0, 0)) {
		t.Error(third.Image(), other.Image())
	}
}

// The same script at two disks, in turns, is answered the same.
func TestTheSameScriptTwice(t *testing.T) {
	x := dice(24)
	one, other := loaded(t, image(1, 2, 3)), loaded(t, image(1, 2, 3))
	for range 2000 {
		c := x.call(3)
		if got, want := do(one, c), do(other, c); got != want || one.Power() != other.Power() {
			t.Fatalf("%v: %v; %v", c, got, want)
		}
	}
}
