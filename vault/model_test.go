package vault_test

import (
	"encoding/binary"
	"fmt"
	"slices"
	"strconv"
	"strings"
	"testing"

	"provost/api"
	"provost/desk"
	"provost/disk"
	"provost/journal"
	"provost/vault"
)

// dice draws numbers, the same ones in every run of the tests.
type dice uint64

func (d *dice) under(n int) int {
	*d = *d*6364136223846793005 + 1442695040888963407
	return int(uint64(*d) >> 33 % uint64(n))
}

func one[T any](d *dice, l []T) T { return l[d.under(len(l))] }

// takes are the Ops that change something, by their words, each with what it takes, in
// the order in which that stands in a line.
const takes = `tick 1 n|user 2 a|nouser 3 a|role 4 a|norole 5 a|join 6 ab|leave 7 ab|over 8 ab|noover 9 ab|grant 10 ab|revoke 11 ab|` +
	`bar 12 ab|unbar 13 ab|lend 14 abn|back 15 ab|rest 16 a|wake 17 a|flow 18 t|start 19 a|claim 20 abn|done 21 abn|abort 22 n`

// asks are those that ask.
const asks = `inst 30 n|can 31 an|who 32 bn|plan 33 n|why 34 n|log 35 n|whois 36 a|show 37 a|org 38 |stuck 39 |now 40 `

// form is what of a table stands for a word, or for a number.
func form(table, word string) (op int, fields string) {
	for _, l := range strings.Split(table, "|") {
		if w := strings.Split(l, " "); w[0] == word || w[1] == word {
			op, _ := strconv.Atoi(w[1])
			return op, w[2]
		}
	}
	return 0, ""
}

// of is the call of a line; `""` is an empty name. The lines of a flow stand behind one
// another with `;` between.
func of(line string) api.Call {
	if strings.HasPrefix(line, "flow ") {
		return api.Call{Op: 18, Text: strings.ReplaceAll(line, ";", "\n") + "\n"}
	}
	w := strings.Split(strings.ReplaceAll(line, `""`, ""), " ")
	op, fields := form(takes+"|"+asks, w[0])
	if op == 0 || len(w) != 1+len(fields) {
		panic("no call: " + line)
	}
	c := api.Call{Op: op}
	for i, x := range fields {
		switch x {
		case 'a':
			c.A = w[i+1]
		case 'b':
			c.B = w[i+1]
		default:
			c.N, _ = strconv.Atoi(w[i+1])
		}
	}
	return c
}

func calls(lines string) []api.Call {
	var l []api.Call
	for _, line := range strings.Split(lines, "|") {
		l = append(l, of(line))
	}
	return l
}

// parts are what a call holds beside its Op, by the letters of takes; C is no Op's.
func parts(c *api.Call) map[byte]*string {
	return map[byte]*string{'a': &c.A, 'b': &c.B, 'c': &c.C, 't': &c.Text}
}

// bare is a call that changes something, with all fields zero that its Op does not take.
func bare(c api.Call) api.Call {
	_, fields := form(takes, strconv.Itoa(c.Op))
	for x, part := range parts(&c) {
		if strings.IndexByte(fields, x) < 0 {
			*part = ""
		}
	}
	if !strings.Contains(fields, "n") {
		c.N = 0
	}
	return c
}

// strewn are calls that are bare as this one is, with something in one field each that
// its Op does not take, and one with something in all of these.
func strewn(c api.Call) []api.Call {
	_, fields := form(takes, strconv.Itoa(c.Op))
	var l []api.Call
	full := c
	for _, x := range "abct" {
		if !strings.ContainsRune(fields, x) {
			other := c
			*parts(&other)[byte(x)] = "y"
			*parts(&full)[byte(x)] = "ann"
			l = append(l, other)
		}
	}
	if !strings.Contains(fields, "n") {
		other := c
		other.N, full.N = 1, -7
		l = append(l, other)
	}
	return append(l, full)
}

// written is a call's image, by chapter 21's words.
func written(c api.Call) string {
	raw := binary.BigEndian.AppendUint64([]byte{byte(c.Op)}, uint64(c.N))
	for _, part := range []string{c.A, c.B, c.C} {
		raw = append(append(raw, byte(len(part))), part...)
	}
	return string(append(binary.BigEndian.AppendUint32(raw, uint32(len(c.Text))), c.Text...))
}

// blocks is how many blocks stand behind a record's title.
func blocks(record string) int { return (len(record) + 15) / 16 }

func said(r api.Reply) string {
	if r.Err != api.OK {
		return strings.TrimSuffix(fmt.Sprint(r.Err, r.N, r.Lines), " 0 []")
	}
	return strings.TrimSpace(strconv.Itoa(r.N) + " " + strings.Join(r.Lines, "|"))
}

// told is what an engine tells when it is asked for all that there can be.
func told(do func(api.Call) api.Reply) string {
	lines := "org|stuck|now|show pay|show solo|show one|whois ann|whois bob|whois cyd|whois dan"
	for n := 1; n <= 5; n++ {
		lines += strings.ReplaceAll("|inst N|plan N|why N|log N|can ann N|can bob N|who ask N|who sign N|who a N", "N", strconv.Itoa(n))
	}
	text := ""
	for _, c := range calls(lines) {
		text += fmt.Sprintln(c, said(do(c)))
	}
	return text
}

// world is a disk with a vault over it, and what the chapter says of both. The desk
// beside it does the calls that are answered OK, and no others.
type world struct {
	t       *testing.T
	d       *disk.Disk
	v       *vault.Vault
	k       *desk.Desk
	records []string
	boots   int
	fuse    int // behind so many writes the power fails; -1: behind none
	down    bool
}

func newDisk(t testing.TB, blocks int) *disk.Disk {
	t.Helper()
	d, err := disk.New(blocks)
	if err != api.OK {
		t.Fatal("disk.New:", err)
	}
	return d
}

// begun is a world whose disk was opened once.
func begun(t *testing.T, blocks int) *world {
	t.Helper()
	w := &world{t: t, d: newDisk(t, blocks), k: desk.New(), fuse: -1}
	w.open()
	return w
}

// lay lays a fuse, where there is power.
func (w *world) lay(writes int) {
	if w.d.Power() {
		w.fuse = max(writes, -1)
	}
	w.d.Fuse(writes)
}

func (w *world) restart() {
	w.d.Restart()
	w.fuse = -1
}

// spend takes writes off the fuse, and says how many are done.
func (w *world) spend(writes int) int {
	if w.fuse < 0 {
		return writes
	}
	writes = min(writes, w.fuse)
	w.fuse -= writes
	return writes
}

// end is the block behind the last record.
func (w *world) end() int {
	at := 1
	for _, r := range w.records {
		at += 1 + blocks(r)
	}
	return at
}

// open opens the disk, and holds what the vault tells against what must be there.
func (w *world) open() {
	w.t.Helper()
	if !w.d.Power() {
		writes := w.d.Writes()
		if v, err := vault.Open(w.d); v != nil || err != api.ErrDown || w.d.Writes() != writes {
			w.t.Fatal("Open without power:", err)
		}
		w.restart()
	}
	v, err := vault.Open(w.d)
	if v == nil || err != api.OK {
		w.t.Fatal("Open:", err)
	}
	w.spend(1)
	w.v, w.down = v, false
	w.boots++
	w.look()
	if got, want := told(v.Do), told(w.k.Do); got != want {
		w.t.Fatalf("Open: %s; not %s", got, want)
	}
}

// look holds the vault's counts and its disk against what must be there.
func (w *world) look() {
	w.t.Helper()
	if w.v.Len() != len(w.records) || w.v.Boots() != w.boots {
		w.t.Fatalf("Len %d, Boots %d; not %d, %d", w.v.Len(), w.v.Boots(), len(w.records), w.boots)
	}
	laid := binary.BigEndian.AppendUint32([]byte{'P', 'J', 1, 0}, uint32(w.boots))
	laid = append(laid, make([]byte, 8)...)
	for i, r := range w.records {
		laid = binary.BigEndian.AppendUint32(append(laid, 'P', 'R', 0, 0), uint32(len(r)))
		laid = binary.BigEndian.AppendUint64(laid, uint64(i+1))
		laid = append(append(laid, r...), make([]byte, 16*blocks(r)-len(r))...)
	}
	laid = append(laid, make([]byte, 16)...)
	if string(w.d.Image()[:len(laid)]) != string(laid) {
		w.t.Fatal("the disk holds something else than the calls that were answered OK")
	}
}

// want is what a call must be answered, and how many writes it costs.
func (w *world) want(c api.Call) (api.Reply, int) {
	if w.down {
		return api.Reply{Err: api.ErrDown}, 0
	}
	if c.Op < 1 || c.Op > 22 {
		return w.k.Do(c), 0
	}
	c = bare(c)
	if why := w.k.Check(c); why != api.OK {
		return api.Reply{Err: why}, 0
	}
	record := written(c)
	cost := blocks(record) + 2
	if w.fuse != 0 && w.end()+cost > w.d.Blocks() {
		return api.Reply{Err: api.ErrSpace}, 0
	}
	if done := w.spend(cost); done < cost {
		w.down = true
		return api.Reply{Err: api.ErrDown}, done
	}
	w.records = append(w.records, record)
	return w.k.Do(c), cost
}

// do does a call, and holds the reply and the disk against what they must be.
func (w *world) do(c api.Call) api.Reply {
	w.t.Helper()
	writes, image := w.d.Writes(), w.d.Image()
	want, cost := w.want(c)
	got := w.v.Do(c)
	if said(got) != said(want) || w.d.Writes()-writes != cost {
		w.t.Fatalf("%.200v: %s, with %d writes; not %s, with %d", c, said(got), w.d.Writes()-writes, said(want), cost)
	}
	if cost == 0 && !slices.Equal(image, w.d.Image()) {
		w.t.Fatalf("%.200v has changed the disk", c)
	}
	w.look()
	return got
}

// does does calls that must be answered OK.
func (w *world) does(l ...api.Call) {
	w.t.Helper()
	for _, c := range l {
		if r := w.do(c); r.Err != api.OK {
			w.t.Fatalf("%.200v: %v", c, r.Err)
		}
	}
}

// plays does lines `call = reply`.
func (w *world) plays(lines string) {
	w.t.Helper()
	for _, l := range strings.Split(lines, "\n") {
		line, want, _ := strings.Cut(l, " = ")
		if got := said(w.do(of(line))); got != want {
			w.t.Errorf("%s: %s, not %s", line, got, want)
		}
	}
}

// recorded is a disk whose journal has these records.
func recorded(t *testing.T, records ...string) *disk.Disk {
	t.Helper()
	size := 2
	for _, r := range records {
		size += 1 + blocks(r)
	}
	d := newDisk(t, size)
	j, _, err := journal.Open(d)
	if err != api.OK {
		t.Fatal("journal.Open:", err)
	}
	for _, r := range records {
		if err := j.Append([]byte(r)); err != api.OK {
			t.Fatal("Append:", err)
		}
	}
	return d
}

func images(l []api.Call) []string {
	var records []string
	for _, c := range l {
		records = append(records, written(c))
	}
	return records
}
