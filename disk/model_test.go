package disk_test

import (
	"bytes"
	"fmt"
	"testing"

	"provost/api"
	"provost/disk"
)

// row is n bytes that are all the same.
func row(n int, c byte) []byte { return bytes.Repeat([]byte{c}, n) }

// block is a block whose bytes are all the same.
func block(c byte) []byte { return row(16, c) }

// image is one block behind the other, each of one byte.
func image(blocks ...byte) []byte {
	var all []byte
	for _, c := range blocks {
		all = append(all, block(c)...)
	}
	return all
}

// loaded is a disk of an image, which must be good.
func loaded(t *testing.T, image []byte) *disk.Disk {
	t.Helper()
	d, err := disk.Load(image)
	if err != api.OK || d == nil {
		t.Fatalf("Load of %d bytes: %v", len(image), err)
	}
	return d
}

// call is a call of a disk.
type call struct {
	what   string
	number int // a block, or a fuse's writes
	data   []byte
}

func read(block int) call               { return call{what: "Read", number: block} }
func write(block int, data []byte) call { return call{what: "Write", number: block, data: data} }
func fuse(writes int) call              { return call{what: "Fuse", number: writes} }
func ask(what string) call              { return call{what: what} }

// answer is what a call is answered.
type answer struct {
	told string
	err  api.Errno
}

func (a answer) String() string { return fmt.Sprintf("%q, %v", a.told, a.err) }

func told(what ...any) answer { return answer{told: fmt.Sprint(what...)} }

// refused is an error beside which nothing is told.
func refused(err api.Errno) answer { return answer{err: err} }

// do calls a disk.
func do(d *disk.Disk, c call) answer {
	switch c.what {
	case "Read":
		data, err := d.Read(c.number)
		return answer{string(data), err}
	case "Write":
		return refused(d.Write(c.number, c.data))
	case "Fuse":
		d.Fuse(c.number)
	case "Restart":
		d.Restart()
	case "Blocks":
		return told(d.Blocks())
	case "Writes":
		return told(d.Writes())
	case "Power":
		return told(d.Power())
	case "Image":
		return answer{told: string(d.Image())}
	}
	return answer{}
}

// model is a disk by the chapter's words: it keeps what it was made of and what was
// written, one behind the other, and says at which of all writes the power fails.
type model struct {
	made string
	done []call
	off  bool
	ends int // the power fails behind this write, if it is not 0
}

// block is what stands there: what was written last, or what it was made of.
func (m *model) block(number int) string {
	for i := len(m.done) - 1; i >= 0; i-- {
		if m.done[i].number == number {
			return string(m.done[i].data)
		}
	}
	return m.made[16*number:][:16]
}

func (m *model) blocks() int { return len(m.made) / 16 }

func (m *model) image() string {
	all := ""
	for i := range m.blocks() {
		all += m.block(i)
	}
	return all
}

// do is what a call is to be answered.
func (m *model) do(c call) answer {
	switch c.what {
	case "Read", "Write":
		return m.touch(c)
	case "Fuse":
		m.lay(c.number)
	case "Restart":
		m.off, m.ends = false, 0
	case "Blocks":
		return told(m.blocks())
	case "Writes":
		return told(len(m.done))
	case "Power":
		return told(!m.off)
	case "Image":
		return answer{told: m.image()}
	}
	return answer{}
}

func (m *model) touch(c call) answer {
	if c.number < 0 || c.number >= m.blocks() || c.what == "Write" && len(c.data) != 16 {
		return refused(api.ErrArg)
	}
	if m.off {
		return refused(api.ErrDown)
	}
	if c.what == "Read" {
		return answer{told: m.block(c.number)}
	}
	m.done = append(m.done, call{number: c.number, data: bytes.Clone(c.data)})
	m.off = len(m.done) == m.ends
	return answer{}
}

func (m *model) lay(writes int) {
	if m.off {
		return
	}
	m.off, m.ends = writes == 0, 0
	if writes > 0 {
		m.ends = len(m.done) + writes
	}
}

// check does a call at a disk and at its model, and holds the answers and all that
// the disk tells against each other.
func check(t *testing.T, d *disk.Disk, m *model, c call) answer {
	t.Helper()
	got, want := do(d, c), m.do(c)
	if got != want {
		t.Fatalf("%v: %v; not %v", c, got, want)
	}
	for _, look := range []string{"Blocks", "Writes", "Power", "Image"} {
		if got, want := do(d, ask(look)), m.do(ask(look)); got != want {
			t.Fatalf("%s behind %v: %v; not %v", look, c, got, want)
		}
	}
	return got
}

// dice draws numbers that look like chance, and are the same in each run.
type dice uint64

func (d *dice) draw(n int) int {
	*d = *d*6364136223846793005 + 1442695040888963407
	return int(*d>>33) % n
}

// bytes are n drawn ones.
func (d *dice) bytes(n int) []byte {
	var l []byte
	for range n {
		l = append(l, byte(d.draw(256)))
	}
	return l
}

// call is a drawn one: most are writes, and few are refused but for power.
func (d *dice) call(blocks int) call {
	number := d.draw(blocks)
	if d.draw(12) == 0 {
		number = []int{-1, blocks, blocks + 1, -1 << 63, 1<<63 - 1, 1 << 60}[d.draw(6)]
	}
	switch d.draw(14) {
	case 0, 1, 2:
		return read(number)
	case 3:
		return fuse([]int{-1 << 63, -2, -1, 0, 0, 1<<63 - 1}[d.draw(6)])
	case 4:
		return fuse(1 + d.draw(6))
	case 5, 6:
		return ask("Restart")
	case 7:
		return write(number, d.bytes([]int{0, 1, 15, 17, 32}[d.draw(5)]))
	}
	return write(number, d.bytes(16))
}

// P19.1 to P19.4: drawn scripts, call by call.
func TestScripts(t *testing.T) {
	x := dice(19)
	seen := map[string]int{}
	for i := range 300 {
		blocks := 1 + i%5
		m := &model{made: string(x.bytes(16 * blocks))}
		d := loaded(t, []byte(m.made))
		for range 100 {
			c := x.call(blocks)
			on := d.Power()
			seen[c.what+" "+check(t, d, m, c).err.Error()]++
			if on && !d.Power() {
				seen[c.what+" ends the power"]++
			}
		}
	}
	for _, what := range []string{
		"Read ok", "Read bad argument", "Read no power", "Write ok", "Write bad argument", "Write no power",
		"Fuse ok", "Restart ok", "Write ends the power", "Fuse ends the power",
	} {
		if seen[what] < 100 {
			t.Errorf("%s: %d times", what, seen[what])
		}
	}
}
