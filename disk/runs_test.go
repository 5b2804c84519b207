package disk_test

import (
	"bytes"
	"testing"

	"provost/api"
	"provost/disk"
)

// The chapter's runs and examples.

// script is calls with what each must be answered.
type script []struct {
	c    call
	want answer
}

func (s script) play(t *testing.T, d *disk.Disk) {
	t.Helper()
	for i, x := range s {
		if got := do(d, x.c); got != x.want {
			t.Errorf("%d: %v: %v; not %v", i, x.c, got, x.want)
		}
	}
}

var ok = answer{}

func TestRuns(t *testing.T) {
	for _, blocks := range []int{0, 65537} {
		if d, err := disk.New(blocks); d != nil || err != api.ErrArg {
			t.Errorf("New(%d): %v, %v", blocks, d, err)
		}
	}
	d, err := disk.New(2)
	if err != api.OK {
		t.Fatal("New(2):", err)
	}
	script{
		{ask("Blocks"), told(2)},
		{ask("Writes"), told(0)},
		{ask("Power"), told(true)},

		{write(1, block(7)), ok},
		{read(1), answer{told: string(block(7))}},
		{read(2), refused(api.ErrArg)},
		{write(1, row(15, 7)), refused(api.ErrArg)},
		{write(-1, block(7)), refused(api.ErrArg)},

		{fuse(1), ok},
		{write(0, block(8)), ok},
		{write(0, block(9)), refused(api.ErrDown)},
		{read(0), refused(api.ErrDown)},
		{ask("Power"), told(false)},
		{ask("Writes"), told(2)},
		{ask("Image"), answer{told: string(image(8, 7))}},

		{ask("Restart"), ok},
		{read(0), answer{told: string(block(8))}},
		{fuse(0), ok},
		{ask("Power"), told(false)},
		{ask("Restart"), ok},
		{fuse(3), ok},
		{fuse(-1), ok},
		{write(0, block(1)), ok},
		{write(0, block(2)), ok},
		{write(0, block(3)), ok},
		{write(0, block(4)), ok},
		{ask("Power"), told(true)},
	}.play(t, d)
	if d, err := disk.Load(row(32, 5)); err != api.OK || d.Blocks() != 2 {
		t.Error("Load of 32 bytes:", err)
	}
	for _, n := range []int{0, 17} {
		if d, err := disk.Load(row(n, 5)); d != nil || err != api.ErrArg {
			t.Errorf("Load of %d bytes: %v, %v", n, d, err)
		}
	}
}

// The first example: a write that is refused counts for nothing.
func TestRefusedWritesDoNotCount(t *testing.T) {
	d := loaded(t, image(1, 2))
	d.Fuse(2)
	script{
		{write(2, block(9)), refused(api.ErrArg)},
		{write(0, row(15, 9)), refused(api.ErrArg)},
		{write(0, nil), refused(api.ErrArg)},
		{ask("Writes"), told(0)},
		{write(0, block(3)), ok},
		{write(-1, block(9)), refused(api.ErrArg)},
		{write(0, row(17, 9)), refused(api.ErrArg)},
		{ask("Power"), told(true)},
		{ask("Writes"), told(1)},
		{write(1, block(4)), ok},
		{ask("Power"), told(false)},
		{write(0, block(9)), refused(api.ErrDown)},
		{write(0, nil), refused(api.ErrArg)},
		{ask("Writes"), told(2)},
		{ask("Image"), answer{told: string(image(3, 4))}},
	}.play(t, d)
}

// The second example: a disk that is loaded from another one's image has the same
// bytes, and nothing else of it.
func TestLoadedFromAnImage(t *testing.T) {
	fused, down := loaded(t, image(1, 2, 3)), loaded(t, image(1, 2, 3))
	for _, d := range []*disk.Disk{fused, down} {
		d.Write(1, block(7))
		d.Fuse(1)
	}
	down.Write(2, block(8))
	for _, x := range []struct {
		d    *disk.Disk
		want []byte
	}{{fused, image(1, 7, 3)}, {down, image(1, 7, 8)}} {
		d := loaded(t, x.d.Image())
		if d.Blocks() != 3 || d.Writes() != 0 || !d.Power() || !bytes.Equal(d.Image(), x.want) {
			t.Error("loaded:", d.Blocks(), d.Writes(), d.Power(), d.Image())
		}
		script{
			{write(0, block(4)), ok},
			{write(0, block(5)), ok},
			{ask("Power"), told(true)},
			{ask("Writes"), told(2)},
		}.play(t, d)
	}
}
