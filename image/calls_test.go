package image_test

import (
	"fmt"
	"math"
	"testing"

	"provost/api"
)

func short(text string) string {
	if len(text) > 60 {
		return fmt.Sprintf("%q.. (%d bytes)", text[:60], len(text))
	}
	return fmt.Sprintf("%q", text)
}

func brief(c api.Call) string {
	return fmt.Sprintf("{Op %d, N %d, A %s, B %s, C %s, Text %s}", c.Op, c.N, short(c.A), short(c.B), short(c.C), short(c.Text))
}

// dice draws numbers, the same ones in every run.
type dice uint64

func (d *dice) under(n int) int {
	*d = *d*6364136223846793005 + 1442695040888963407
	return int(uint64(*d) >> 33 % uint64(n))
}

func (d *dice) text(n int) string {
	raw := make([]byte, n)
	for i := range raw {
		raw[i] = byte(d.under(256))
	}
	return string(raw)
}

// call draws a call that Write takes, or one that is just past an edge.
func (d *dice) call() api.Call {
	lengths := []int{0, 1, 2, 3, 24, 127, 128, 200, 254, 255, 255, 256}
	part := func() string { return d.text(lengths[d.under(len(lengths))]) }
	numbers := []int{0, 1, -1, 255, 256, -256, math.MaxInt32, math.MinInt32, math.MaxInt64, math.MinInt64, 999999999}
	c := api.Call{Op: 1 + d.under(255), A: part(), B: part(), C: part(), N: numbers[d.under(len(numbers))]}
	if d.under(2) == 0 {
		c.N = d.under(1<<31) << 33 >> d.under(64)
	}
	lengths = []int{0, 0, 1, 5, 16, 255, 256, 257, 1000, 2000, 65535, 65536, 65537}
	c.Text = d.text(lengths[d.under(len(lengths))])
	return c
}

// P21.1

func TestWriteOps(t *testing.T) {
	for op := -600; op <= 600; op++ {
		agreesOnWrite(t, api.Call{Op: op, A: "a", N: op})
		agreesOnWrite(t, api.Call{Op: op, A: row(256, 'a')})
	}
	for _, op := range []int{math.MinInt64, math.MaxInt64, 1 << 32, 1<<32 + 1, 1<<8 + 1, -255, 1 << 63 >> 1} {
		agreesOnWrite(t, api.Call{Op: op})
		agreesOnWrite(t, api.Call{Op: op, Text: row(65537, 't')})
	}
}

func TestWriteNumbers(t *testing.T) {
	for shift := range 64 {
		for _, n := range []int{1 << shift, -1 << shift, 1<<shift - 1, -1<<shift - 1, 0x81 << shift, ^(0x7E << shift)} {
			agreesOnWrite(t, api.Call{Op: 255, N: n})
		}
	}
	writes(t, api.Call{Op: 2, N: 0x0102030405060708}, "\x02\x01\x02\x03\x04\x05\x06\x07\x08"+row(7, 0))
	writes(t, api.Call{Op: 2, N: -2}, "\x02"+row(7, 255)+"\xFE"+row(7, 0))
	writes(t, api.Call{Op: 2, N: math.MinInt64}, "\x02\x80"+row(7, 0)+row(7, 0))
}

func TestWriteLengths(t *testing.T) {
	for n := range 300 {
		agreesOnWrite(t, api.Call{Op: 7, A: row(n, 'a')})
		agreesOnWrite(t, api.Call{Op: 7, B: row(n, 'b')})
		agreesOnWrite(t, api.Call{Op: 7, C: row(n, 'c')})
		agreesOnWrite(t, api.Call{Op: 7, A: row(n, 'a'), B: row(299-n, 'b'), C: row(n/2, 'c'), Text: row(n, 't')})
	}
	for _, n := range []int{300, 511, 512, 513, 4096, 65279, 65280, 65534, 65535, 65536, 65537, 65538, 131072, 1 << 24} {
		agreesOnWrite(t, api.Call{Op: 7, Text: row(n, 't')})
		agreesOnWrite(t, api.Call{Op: 7, A: row(n, 'a')})
		agreesOnWrite(t, api.Call{Op: 7, B: row(n, 'b')})
		agreesOnWrite(t, api.Call{Op: 7, C: row(n, 'c'), Text: row(n, 't')})
	}
	agreesOnWrite(t, api.Call{Op: 255, N: -1, A: row(255, 'a'), B: row(255, 'b'), C: row(255, 'c'), Text: row(65536, 't')})
}

// Any bytes may stand in the parts: zeros, line ends, and what is no text at all.
func TestWriteAnyBytes(t *testing.T) {
	for b := range 256 {
		one := row(1, byte(b))
		agreesOnWrite(t, api.Call{Op: 9, A: one, B: one + "b", C: "c" + one, Text: one + one})
	}
}

func TestWriteDrawn(t *testing.T) {
	d, taken := dice(1), 0
	for range 3000 {
		c := d.call()
		agreesOnWrite(t, c)
		if refusal(c) == api.OK {
			taken++
		}
	}
	if taken < 100 || taken > 2900 {
		t.Error("too much of one kind was drawn:", taken)
	}
}

// P21.2

func TestReadEveryPieceOfACall(t *testing.T) {
	for _, c := range []api.Call{{Op: 1}, {Op: 20, A: "ann", B: "sign", N: 3}, {Op: 255, A: row(255, 1), B: "\x00", C: row(255, 255), N: -1, Text: row(300, 0)}} {
		whole := written(c)
		for n := range whole {
			rejects(t, whole[:n])
		}
		reads(t, whole, c)
		for b := range 256 {
			rejects(t, whole+row(1, byte(b)))
		}
		rejects(t, whole+whole)
		rejects(t, whole+row(100, 0))
	}
}

// Each byte in turn becomes each other one.
func TestReadOneByteChanged(t *testing.T) {
	taken := 0
	for _, c := range []api.Call{{Op: 1}, {Op: 20, A: "ann", B: "sign", N: 3}, {Op: 18, C: "\x00\x00\x00\x00", Text: "flow"}} {
		whole := written(c)
		for i := range whole {
			for b := range 256 {
				if agreesOnRead(t, whole[:i]+row(1, byte(b))+whole[i+1:]) {
					taken++
				}
			}
		}
	}
	if taken < 1000 {
		t.Error(taken)
	}
}

func TestReadTextsThatAreNotThere(t *testing.T) {
	front := "\x01" + row(11, 0)
	for _, length := range []string{"\xff\xff\xff\xff", "\x80\x00\x00\x00", "\x7f\xff\xff\xff", "\x00\x01\x00\x00", "\x00\x01\x00\x01", "\x00\x00\x00\x01", "\x01\x00\x00\x00"} {
		rejects(t, front+length)
	}
	for _, n := range []int{65535, 65536, 65537, 65538, 1 << 17, 1 << 24} {
		length := string([]byte{byte(n >> 24), byte(n >> 16), byte(n >> 8), byte(n)})
		if taken := agreesOnRead(t, front+length+row(n, 't')); taken != (n <= 65536) {
			t.Error(n, taken)
		}
		rejects(t, front+length+row(n-1, 't'))
		rejects(t, front+length+row(n+1, 't'))
	}
	// A length that comes right only if its highest bytes are passed over.
	rejects(t, front+"\x01\x00\x00\x02tt")
	rejects(t, front+"\x00\x01\x00\x02tt")
	rejects(t, front+"\x80\x00\x00\x02tt")
}

// Bytes of any kind: some thousand of few kinds, so that many of them are calls.
func TestReadDrawn(t *testing.T) {
	d, taken := dice(2), 0
	for range 200000 {
		raw := make([]byte, 14+d.under(8))
		for i := range raw {
			if d.under(3) == 0 {
				raw[i] = byte(d.under(4))
			}
		}
		if agreesOnRead(t, string(raw)) {
			taken++
		}
	}
	if taken < 500 {
		t.Error("too few calls were drawn:", taken)
	}
}

// P21.3

func TestThereAndBack(t *testing.T) {
	d := dice(3)
	for range 1000 {
		c := d.call()
		if refusal(c) != api.OK {
			continue
		}
		whole := written(c)
		reads(t, whole, c)
		for range 20 {
			i := d.under(min(len(whole), 40))
			agreesOnRead(t, whole[:i]+d.text(d.under(2))+whole[min(i+d.under(3), len(whole)):])
		}
	}
}
