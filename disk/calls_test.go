package disk_test

import (
	"bytes"
	"math"
	"testing"

	"provost/api"
	"provost/disk"
)

// P19.1

func TestNew(t *testing.T) {
	for _, blocks := range []int{0, -1, -2, 65537, 65538, 1 << 31, 1 << 59, 1 << 60, math.MinInt, math.MaxInt} {
		if d, err := disk.New(blocks); d != nil || err != api.ErrArg {
			t.Errorf("New(%d): %v, %v", blocks, d, err)
		}
	}
	for _, blocks := range []int{1, 2, 3, 16, 1000, 65535, 65536} {
		d, err := disk.New(blocks)
		if err != api.OK || d.Blocks() != blocks || d.Writes() != 0 || !d.Power() {
			t.Fatalf("New(%d): %v", blocks, err)
		}
		if !bytes.Equal(d.Image(), row(16*blocks, 0)) {
			t.Errorf("New(%d) is not all zeros", blocks)
		}
		for _, number := range []int{0, blocks / 2, blocks - 1} {
			if got := do(d, read(number)); got.told != string(block(0)) || got.err != api.OK {
				t.Errorf("New(%d): block %d: %v", blocks, number, got)
			}
		}
	}
}

// A new disk has no fuse.
func TestTheFuseIsNotLaidAtFirst(t *testing.T) {
	made, _ := disk.New(1)
	for _, d := range []*disk.Disk{made, loaded(t, image(3))} {
		for range 1000 {
			if err := d.Write(0, block(1)); err != api.OK {
				t.Fatal(err)
			}
		}
		if !d.Power() || d.Writes() != 1000 {
			t.Error(d.Power(), d.Writes())
		}
	}
}

func TestLoad(t *testing.T) {
	for _, n := range []int{0, 1, 15, 17, 31, 33, 65536*16 - 1, 65536*16 + 1, 65536*16 + 15, 65537 * 16, 65552 * 16} {
		if d, err := disk.Load(make([]byte, n)); d != nil || err != api.ErrArg {
			t.Errorf("Load of %d bytes: %v, %v", n, d, err)
		}
	}
	if d, err := disk.Load(nil); d != nil || err != api.ErrArg {
		t.Errorf("Load(nil): %v, %v", d, err)
	}
	x := dice(1)
	for _, blocks := range []int{1, 2, 3, 16, 1000, 65535, 65536} {
		image := x.bytes(16 * blocks)
		d := loaded(t, image)
		if d.Blocks() != blocks || d.Writes() != 0 || !d.Power() || !bytes.Equal(d.Image(), image) {
			t.Errorf("Load of %d blocks: %d, %d, %t", blocks, d.Blocks(), d.Writes(), d.Power())
		}
		for _, number := range []int{0, blocks / 2, blocks - 1} {
			if got := do(d, read(number)); got.told != string(image[16*number:][:16]) || got.err != api.OK {
				t.Errorf("Load of %d blocks: block %d: %v", blocks, number, got)
			}
		}
	}
}

// P19.2

// strange are numbers of no block of a disk of n blocks.
func strange(n int) []int {
	return []int{-1, -2, n, n + 1, 65536, 1 << 32, 1 << 60, 1<<60 + 1, -1 << 60, math.MinInt, math.MaxInt}
}

// What is refused changes nothing, with power and without, and a wrong argument is
// told ahead of the power.
func TestWrongArguments(t *testing.T) {
	for _, blocks := range []int{1, 2, 9} {
		for _, power := range []bool{true, false} {
			d := loaded(t, row(16*blocks, 5))
			d.Write(0, block(6))
			if !power {
				d.Fuse(0)
			}
			var calls []call
			for _, number := range strange(blocks) {
				calls = append(calls, read(number), write(number, block(9)), write(number, nil), write(number, row(17, 9)))
			}
			for _, n := range []int{0, 1, 8, 15, 17, 31, 32, 4096} {
				calls = append(calls, write(0, row(n, 9)), write(blocks-1, row(n, 9)), write(blocks, row(n, 9)))
			}
			was := string(d.Image())
			for _, c := range calls {
				if got := do(d, c); got != refused(api.ErrArg) {
					t.Errorf("%v: %v", c, got)
				}
				if string(d.Image()) != was || d.Writes() != 1 || d.Power() != power || d.Blocks() != blocks {
					t.Fatalf("%v has changed the disk", c)
				}
			}
		}
	}
}

func TestWithoutPower(t *testing.T) {
	d := loaded(t, image(1, 2))
	d.Write(0, block(3))
	d.Fuse(0)
	for range 3 {
		script{
			{read(0), refused(api.ErrDown)},
			{read(1), refused(api.ErrDown)},
			{write(0, block(9)), refused(api.ErrDown)},
			{write(1, block(2)), refused(api.ErrDown)},
			{ask("Blocks"), told(2)},
			{ask("Writes"), told(1)},
			{ask("Power"), told(false)},
			{ask("Image"), answer{told: string(image(3, 2))}},
		}.play(t, d)
	}
}

// A write fills its own block, and no other one.
func TestEachBlock(t *testing.T) {
	x := dice(2)
	d, _ := disk.New(64)
	m := &model{made: string(make([]byte, 64*16))}
	for i := range 128 {
		c := write(i*29%64, x.bytes(16))
		check(t, d, m, c)
		for _, number := range []int{0, c.number, 63} {
			check(t, d, m, read(number))
		}
	}
}

// A write of what stands there already is one, too.
func TestTheSameBytesAgain(t *testing.T) {
	d := loaded(t, image(4))
	d.Fuse(2)
	script{
		{write(0, block(4)), ok},
		{ask("Writes"), told(1)},
		{write(0, block(4)), ok},
		{ask("Power"), told(false)},
		{ask("Writes"), told(2)},
	}.play(t, d)
}

// P19.3

// last writes until the power fails, at most so many times, and says how many
// writes were done.
func last(t *testing.T, d *disk.Disk, most int) int {
	t.Helper()
	for done := range most {
		if !d.Power() {
			if err := d.Write(0, block(99)); err != api.ErrDown {
				t.Fatal("without power:", err)
			}
			return done
		}
		if err := d.Write(0, block(byte(done))); err != api.OK {
			t.Fatal("with power:", err)
		}
		if raw := d.Image()[0]; raw != byte(done) {
			t.Fatalf("write %d left %d", done, raw)
		}
	}
	return most
}

func TestFuseBehindSoManyWrites(t *testing.T) {
	for _, writes := range []int{0, 1, 2, 3, 17, 300} {
		for done := range 3 { // the fuse counts from where it is laid
			d := loaded(t, image(1))
			for range done {
				d.Write(0, block(5))
			}
			d.Fuse(writes)
			if got := last(t, d, 1000); got != writes || d.Writes() != done+writes {
				t.Errorf("Fuse(%d) behind %d: the power lasts %d, Writes %d", writes, done, got, d.Writes())
			}
		}
	}
}

func TestFusesThatAreOut(t *testing.T) {
	for _, below := range []int{-1, -2, -1000, math.MinInt, math.MinInt + 1} {
		d := loaded(t, image(1))
		d.Fuse(below)
		if got := last(t, d, 500); got != 500 {
			t.Errorf("Fuse(%d): the power lasts %d", below, got)
		}
		d.Fuse(2)
		d.Fuse(below)
		if got := last(t, d, 500); got != 500 {
			t.Errorf("Fuse(2), Fuse(%d): the power lasts %d", below, got)
		}
	}
	d := loaded(t, image(1))
	d.Fuse(math.MaxInt)
	if got := last(t, d, 500); got != 500 {
		t.Error("the greatest fuse lasts", got)
	}
}

func TestALaterFuseTakesTheEarlierOnesPlace(t *testing.T) {
	for first := 1; first < 6; first++ {
		for between := range first {
			for later := range 7 {
				d := loaded(t, image(1))
				d.Fuse(first)
				for range between {
					d.Write(0, block(1))
				}
				d.Fuse(later)
				if got := last(t, d, 50); got != later {
					t.Errorf("Fuse(%d), %d writes, Fuse(%d): the power lasts %d", first, between, later, got)
				}
			}
		}
	}
}

// Without power Fuse does nothing: it gives no power, and is not laid for later.
func TestFuseWithoutPower(t *testing.T) {
	for _, writes := range []int{math.MinInt, -1, 0, 1, 2, math.MaxInt} {
		for _, off := range []int{0, 1} {
			d := loaded(t, image(1))
			d.Fuse(off)
			last(t, d, 5)
			d.Fuse(writes)
			if d.Power() || d.Write(0, block(2)) != api.ErrDown || d.Writes() != off {
				t.Errorf("Fuse(%d) without power: Power %t, Writes %d", writes, d.Power(), d.Writes())
			}
			d.Restart()
			if got := last(t, d, 50); got != 50 {
				t.Errorf("Fuse(%d) without power, Restart: the power lasts %d", writes, got)
			}
		}
	}
}

// Restart takes the fuse out, with power too, and leaves all else.
func TestRestart(t *testing.T) {
	for _, writes := range []int{-1, 0, 1, 2, 3} {
		for done := range 4 {
			d := loaded(t, image(1, 2))
			d.Fuse(writes)
			for range done {
				d.Write(0, block(7))
			}
			was, count := string(d.Image()), d.Writes()
			for range 2 {
				d.Restart()
			}
			if !d.Power() || string(d.Image()) != was || d.Writes() != count || d.Blocks() != 2 {
				t.Errorf("Fuse(%d), %d writes, Restart: %t, %d", writes, done, d.Power(), d.Writes())
			}
			if got := last(t, d, 50); got != 50 {
				t.Errorf("Fuse(%d), %d writes, Restart: the power lasts %d", writes, done, got)
			}
		}
	}
}

// The power may fail and come again many times: what was answered OK stands, and
// what was answered ErrDown does not.
func TestPowerThatFailsAgainAndAgain(t *testing.T) {
	d := loaded(t, image(0))
	for i := range 200 {
		d.Fuse(i % 4)
		if got := last(t, d, 10); got != i%4 {
			t.Fatalf("Fuse(%d) for the %dth time: %d", i%4, i, got)
		}
		d.Restart()
	}
	if d.Writes() != 50*(1+2+3) {
		t.Error("Writes:", d.Writes())
	}
	if got := do(d, read(0)); got.told != string(block(2)) {
		t.Errorf("the last write: %v", got)
	}
}

// P19.4

// Writes counts all writes that were done, over restarts and fuses.
func TestWrites(t *testing.T) {
	d := loaded(t, image(1, 2, 3))
	script{
		{write(0, block(1)), ok},
		{write(2, block(1)), ok},
		{ask("Writes"), told(2)},
		{read(0), answer{told: string(block(1))}},
		{ask("Image"), answer{told: string(image(1, 2, 1))}},
		{ask("Writes"), told(2)},
		{ask("Restart"), ok},
		{ask("Writes"), told(2)},
		{fuse(1), ok},
		{write(1, block(1)), ok},
		{ask("Writes"), told(3)},
		{write(1, block(5)), refused(api.ErrDown)},
		{ask("Writes"), told(3)},
		{ask("Restart"), ok},
		{write(1, block(6)), ok},
		{ask("Writes"), told(4)},
	}.play(t, d)
}
