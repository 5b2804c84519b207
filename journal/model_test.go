package journal_test

import (
	"bytes"
	"encoding/binary"
	"fmt"
	"slices"
	"strings"
	"testing"

	"provost/api"
	"provost/disk"
	"provost/journal"
)

// row is n bytes that are all the same.
func row(n int, c byte) string { return strings.Repeat(string([]byte{c}), n) }

// filled is a text with zeros behind it, up to the end of a block.
func filled(text string) string {
	for len(text)%16 != 0 {
		text += "\x00"
	}
	return text
}

const zeros = "\x00\x00\x00\x00\x00\x00\x00\x00\x00\x00\x00\x00\x00\x00\x00\x00"

// head is block 0 of a journal, by the chapter's words.
func head(boots uint32) string {
	return filled(string(binary.BigEndian.AppendUint32([]byte{80, 74, 1, 0}, boots)))
}

func title(n uint32, number uint64) string {
	return string(binary.BigEndian.AppendUint64(binary.BigEndian.AppendUint32([]byte{80, 82, 0, 0}, n), number))
}

// laid is what stands on a disk up to its end, with these records.
func laid(boots uint32, records ...string) string {
	var all strings.Builder
	all.WriteString(head(boots))
	for i, r := range records {
		all.WriteString(title(uint32(len(r)), uint64(i+1)) + filled(r))
	}
	return all.String() + zeros
}

// told is what must be told of an image of two blocks or more: its records, its
// openings, and the block of its end; is says whether it opens.
func told(image string) (records []string, boots uint32, end int, is bool) {
	if image[:32] == zeros+zeros {
		return nil, 0, 1, true
	}
	boots = binary.BigEndian.Uint32([]byte(image[4:8]))
	if image[:16] != head(boots) {
		return nil, 0, 0, false
	}
	for rest := image[16:]; ; {
		if strings.HasPrefix(rest, zeros) {
			return records, boots, (len(image) - len(rest)) / 16, true
		}
		if len(rest) < 16 {
			return nil, 0, 0, false
		}
		n := binary.BigEndian.Uint32([]byte(rest[4:8]))
		if n > 131072 || len(rest) < 16+int(n+15)/16*16+16 {
			return nil, 0, 0, false
		}
		r := rest[16 : 16+n]
		whole := title(n, uint64(len(records)+1)) + filled(r)
		if !strings.HasPrefix(rest, whole) {
			return nil, 0, 0, false
		}
		records, rest = append(records, r), rest[len(whole):]
	}
}

// loaded is a disk of an image with blocks of other bytes behind it, so many in all.
func loaded(t *testing.T, image string, blocks int, behind byte) *disk.Disk {
	t.Helper()
	d, err := disk.Load([]byte(image + row(16*blocks-len(image), behind)))
	if err != api.OK {
		t.Fatal("Load:", err)
	}
	return d
}

func fresh(t *testing.T, blocks int) *disk.Disk {
	t.Helper()
	return loaded(t, "", blocks, 0)
}

// texts are records as texts.
func texts(records [][]byte) []string {
	var l []string
	for _, r := range records {
		l = append(l, string(r))
	}
	return l
}

// opened opens a disk that must open with these records.
func opened(t *testing.T, d *disk.Disk, want ...string) *journal.Journal {
	t.Helper()
	j, records, err := journal.Open(d)
	if err != api.OK || j == nil {
		t.Fatal("Open:", err)
	}
	if got := texts(records); !slices.Equal(got, want) || j.Len() != len(want) {
		t.Fatalf("Open: %d records, %.200q; not %.200q", j.Len(), got, want)
	}
	return j
}

// refuses opens a disk that must not open, and holds against it what it was.
func refuses(t *testing.T, d *disk.Disk, want api.Errno) {
	t.Helper()
	was, writes, power := d.Image(), d.Writes(), d.Power()
	j, records, err := journal.Open(d)
	if err != want || j != nil || len(records) != 0 {
		t.Errorf("Open: %v, %d records; not %v", err, len(records), want)
	}
	if !bytes.Equal(d.Image(), was) || d.Writes() != writes || d.Power() != power {
		t.Error("an Open that was refused has changed the disk")
	}
}

// lays appends, and holds the answer against what it must be.
func lays(t *testing.T, j *journal.Journal, record string, want api.Errno) {
	t.Helper()
	if err := j.Append([]byte(record)); err != want {
		t.Errorf("Append of %d bytes: %v; not %v", len(record), err, want)
	}
}

// holds looks at a disk's first bytes.
func holds(t *testing.T, d *disk.Disk, want string) {
	t.Helper()
	if got := string(d.Image()[:len(want)]); got != want {
		t.Errorf("the disk holds %q; not %q", got, want)
	}
}

// says looks at all that a journal tells.
func says(t *testing.T, j *journal.Journal, length, boots, room int) {
	t.Helper()
	got, want := fmt.Sprint(j.Len(), j.Boots(), j.Room()), fmt.Sprint(length, boots, room)
	if got != want {
		t.Errorf("Len, Boots, Room: %s; not %s", got, want)
	}
}

// dice draws numbers that look like chance, and are the same in each run.
type dice uint64

func (d *dice) draw(n int) int {
	*d = *d*6364136223846793005 + 1442695040888963407
	return int(*d>>33) % n
}

// record is a drawn one. Many hold zeros or what looks like titles, of which a
// journal must think nothing.
func (d *dice) record(most int) string {
	n := d.draw(most + 1)
	var all string
	for len(all) < n {
		switch d.draw(4) {
		case 0:
			all += zeros
		case 1:
			all += title(uint32(d.draw(20)), uint64(d.draw(6)))
		default:
			all += string([]byte{byte(d.draw(256))})
		}
	}
	return all[:n]
}
