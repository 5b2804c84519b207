package journal_test

import (
	"bytes"
	"strings"
	"testing"

	"provost/api"
)

// P20.3 to P20.5

// steps are the blocks that the chapter lets an Append write, one behind the other.
func steps(end int, record string, number int) (places []int, blocks []string) {
	body := filled(record)
	for i := range len(body) / 16 {
		places, blocks = append(places, end+1+i), append(blocks, body[16*i:][:16])
	}
	places = append(places, end+1+len(body)/16, end)
	return places, append(blocks, zeros, title(uint32(len(record)), uint64(number)))
}

// Behind each write just those blocks are written that come up to it.
func TestTheOrderOfWrites(t *testing.T) {
	for _, ahead := range [][]string{nil, {"abc"}, {"", row(20, 'y')}} {
		for _, n := range []int{0, 1, 15, 16, 17, 31, 32, 33, 48} {
			record := strings.Repeat("0123456789abcde", 4)[:n]
			was := laid(8, ahead...) + row(6*16, 0xEE)
			_, _, end, _ := told(was)
			places, blocks := steps(end, record, len(ahead)+1)
			for cut := range len(places) + 2 {
				d := loaded(t, was, len(was)/16, 0)
				j := opened(t, d, ahead...)
				d.Fuse(cut)
				want, answer := []byte(head(9)+was[16:]), api.ErrDown
				for i := range min(cut, len(places)) {
					copy(want[16*places[i]:], blocks[i])
				}
				if cut >= len(places) {
					answer = api.OK
				}
				lays(t, j, record, answer)
				if got := d.Image(); !bytes.Equal(got, want) || d.Writes() != 1+min(cut, len(places)) {
					t.Fatalf("%d bytes, cut behind %d: %d writes, %q; not %q", n, cut, d.Writes(), got, want)
				}
			}
		}
	}
}

// Records for which there is no room, and those that are too long, leave all as it was.
func TestRefusedAppendsChangeNothing(t *testing.T) {
	d := loaded(t, laid(1, "abc"), 8, 9)
	j := opened(t, d, "abc")
	was, writes := d.Image(), d.Writes()
	same := func(room int) {
		t.Helper()
		says(t, j, 1, 2, room)
		if !bytes.Equal(d.Image(), was) || d.Writes() != writes {
			t.Error("the disk has changed")
		}
	}
	lays(t, j, row(49, 'x'), api.ErrSpace)
	same(48)
	lays(t, j, row(131072, 'x'), api.ErrSpace)
	same(48)
	lays(t, j, row(131073, 'x'), api.ErrTooBig)
	same(48)
	lays(t, j, row(48, 'x'), api.OK)
	says(t, j, 2, 2, -1)
	opened(t, d, "abc", row(48, 'x'))
}

// ErrTooBig is told ahead of ErrDown, and that ahead of ErrSpace; of these ErrDown
// alone is for ever.
func TestWhichErrorAppendTells(t *testing.T) {
	d := fresh(t, 5)
	j := opened(t, d)
	lays(t, j, row(131073, 1), api.ErrTooBig)
	lays(t, j, row(33, 1), api.ErrSpace)
	d.Fuse(0)
	lays(t, j, row(131073, 1), api.ErrTooBig)
	d.Restart()
	lays(t, j, "a", api.OK)
	lays(t, j, "b", api.ErrSpace)
	d.Fuse(0)
	lays(t, j, row(131072, 1), api.ErrDown)
	lays(t, j, row(131073, 1), api.ErrTooBig)
	d.Restart()
	writes := d.Writes()
	lays(t, j, "", api.ErrDown)
	lays(t, j, row(33, 1), api.ErrDown)
	lays(t, j, row(131073, 1), api.ErrTooBig)
	if d.Writes() != writes {
		t.Error("a journal that is down has written")
	}
	says(t, j, 1, 1, 0)
	lays(t, opened(t, d, "a"), "", api.OK)
	opened(t, d, "a", "")
}

// A journal that was answered ErrDown once stays so; one that had just its last
// write, and power again, goes on.
func TestDownForEver(t *testing.T) {
	for cut := range 5 {
		d := loaded(t, row(32, 0), 20, 3)
		j := opened(t, d)
		d.Fuse(cut)
		answer, want := j.Append([]byte("abc")), api.OK
		if cut < 3 {
			want = api.ErrDown
		}
		if answer != want {
			t.Fatalf("cut behind %d: %v", cut, answer)
		}
		d.Restart()
		image := d.Image()
		lays(t, j, "d", want)
		lays(t, j, "", want)
		if want == api.ErrDown {
			says(t, j, 0, 1, 17*16)
			if !bytes.Equal(d.Image(), image) {
				t.Error("a journal that is down has written")
			}
			opened(t, d)
			continue
		}
		says(t, j, 3, 1, 12*16)
		opened(t, d, "abc", "d", "")
	}
}

// A record that has each length up to some, and what stands then.
func TestEachLength(t *testing.T) {
	for n := range 100 {
		d := loaded(t, row(32, 0), 20, 0xAA)
		j := opened(t, d)
		r := strings.Repeat("0123456789\x00", 10)[:n]
		writes := d.Writes()
		lays(t, j, r, api.OK)
		lays(t, j, "x", api.OK)
		if got, want := d.Writes()-writes, (n+15)/16+2+3; got != want {
			t.Errorf("%d bytes: %d writes, not %d", n, got, want)
		}
		want := laid(1, r, "x")
		holds(t, d, want+row(20*16-len(want), 0xAA))
		opened(t, d, r, "x")
	}
}

// Room is the length of the longest record that is not refused for space.
func TestRoom(t *testing.T) {
	for blocks := 2; blocks < 14; blocks++ {
		for _, records := range [][]string{nil, {""}, {"a"}, {"", row(17, 'b')}, {"", "", "", ""}} {
			image := laid(1, records...)
			if len(image) > 16*blocks {
				continue
			}
			longest := -1
			for n := range 16*blocks + 2 {
				d := loaded(t, image, blocks, 4)
				if err := opened(t, d, records...).Append(make([]byte, n)); err == api.OK {
					longest = n
				} else if err != api.ErrSpace || d.Writes() != 1 {
					t.Fatal(err, d.Writes())
				}
			}
			d := loaded(t, image, blocks, 4)
			j := opened(t, d, records...)
			says(t, j, len(records), 2, longest)
			d.Fuse(0)
			says(t, j, len(records), 2, longest)
		}
	}
}

func TestRoomForTheLongestRecord(t *testing.T) {
	for _, x := range []struct{ blocks, room int }{
		{8193, 131040}, {8194, 131056}, {8195, 131072}, {8196, 131072}, {65535, 131072}, {65536, 131072},
	} {
		d := fresh(t, x.blocks)
		j := opened(t, d)
		says(t, j, 0, 1, x.room)
		if x.room < 131072 {
			lays(t, j, row(x.room+1, 1), api.ErrSpace)
		}
		lays(t, j, row(131073, 1), api.ErrTooBig)
		r := row(x.room, 1)
		lays(t, j, r, api.OK)
		says(t, opened(t, d, r), 1, 2, max(-1, min(131072, 16*(x.blocks-4-x.room/16))))
	}
}

// The greatest disk, full of the shortest records and of the longest ones.
func TestFullDisks(t *testing.T) {
	d := fresh(t, 65536)
	j := opened(t, d)
	for i := range 65534 {
		if err := j.Append(nil); err != api.OK {
			t.Fatal(i, err)
		}
	}
	lays(t, j, "", api.ErrSpace)
	says(t, j, 65534, 1, -1)
	none := make([]string, 65534)
	if string(d.Image()) != laid(1, none...) {
		t.Error("the disk holds something else than empty records")
	}
	says(t, opened(t, d, none...), 65534, 2, -1)

	d = fresh(t, 65536)
	j = opened(t, d)
	var all []string
	for len(all) < 7 {
		all = append(all, row(131072, byte(len(all))))
		lays(t, j, all[len(all)-1], api.OK)
	}
	says(t, j, 7, 1, 16*(65536-2-1-7*8193))
	lays(t, j, row(131072, 7), api.ErrSpace)
	opened(t, d, all...)
}

// Len and what is told, append by append.
func TestLen(t *testing.T) {
	d := loaded(t, row(32, 0), 400, 1)
	j := opened(t, d)
	x := dice(5)
	var all []string
	for i := range 60 {
		r := x.record(40)
		lays(t, j, r, api.OK)
		all = append(all, r)
		if j.Len() != i+1 {
			t.Fatal("Len:", j.Len())
		}
		holds(t, d, laid(uint32(j.Boots()), all...))
		if i%7 == 3 {
			j = opened(t, d, all...)
		}
	}
}
