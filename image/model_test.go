package image_test

import (
	"encoding/binary"
	"strings"
	"testing"

	"provost/api"
	"provost/image"
)

// row is n bytes that are all the same.
func row(n int, c byte) string { return strings.Repeat(string([]byte{c}), n) }

// written is a call as bytes, by the chapter's words; the call is one that Write takes.
func written(c api.Call) string {
	raw := binary.BigEndian.AppendUint64([]byte{byte(c.Op)}, uint64(c.N))
	for _, part := range []string{c.A, c.B, c.C} {
		raw = append(append(raw, byte(len(part))), part...)
	}
	return string(append(binary.BigEndian.AppendUint32(raw, uint32(len(c.Text))), c.Text...))
}

// refusal is why Write does not take a call, or OK.
func refusal(c api.Call) api.Errno {
	switch {
	case c.Op < 1 || c.Op > 255:
		return api.ErrArg
	case max(len(c.A), len(c.B), len(c.C)) > 255 || len(c.Text) > 65536:
		return api.ErrTooBig
	}
	return api.OK
}

// read is the call of which a text is the bytes, if there is one: the only one that
// can be is taken out of the text, and written again.
func read(text string) (api.Call, bool) {
	at := 0
	take := func(n int) string {
		from := min(at, len(text))
		at = min(from+n, len(text))
		return text[from:at]
	}
	figure := func(n int) uint64 {
		b := take(n)
		return binary.BigEndian.Uint64([]byte(row(8-len(b), 0) + b))
	}
	c := api.Call{Op: int(figure(1)), N: int(figure(8))}
	c.A = take(int(figure(1)))
	c.B = take(int(figure(1)))
	c.C = take(int(figure(1)))
	c.Text = take(int(figure(4)))
	if refusal(c) != api.OK || written(c) != text {
		return api.Call{}, false
	}
	return c, true
}

func writes(t *testing.T, c api.Call, want string) {
	t.Helper()
	raw, err := image.Write(c)
	if string(raw) != want || err != api.OK {
		t.Errorf("Write of %s: %s, %v; not %s", brief(c), short(string(raw)), err, short(want))
	}
}

func refuses(t *testing.T, c api.Call, want api.Errno) {
	t.Helper()
	raw, err := image.Write(c)
	if len(raw) != 0 || err != want {
		t.Errorf("Write of %s: %s, %v; not %v", brief(c), short(string(raw)), err, want)
	}
}

func reads(t *testing.T, text string, want api.Call) {
	t.Helper()
	c, err := image.Read([]byte(text))
	if c != want || err != api.OK {
		t.Errorf("Read of %s: %s, %v; not %s", short(text), brief(c), err, brief(want))
	}
}

func rejects(t *testing.T, text string) {
	t.Helper()
	c, err := image.Read([]byte(text))
	if c != (api.Call{}) || err != api.ErrForm {
		t.Errorf("Read of %s: %s, %v; not %v", short(text), brief(c), err, api.ErrForm)
	}
}

// agreesOnWrite and agreesOnRead hold what is answered against the model.
func agreesOnWrite(t *testing.T, c api.Call) {
	t.Helper()
	if why := refusal(c); why != api.OK {
		refuses(t, c, why)
		return
	}
	writes(t, c, written(c))
	reads(t, written(c), c)
}

func agreesOnRead(t *testing.T, text string) (taken bool) {
	t.Helper()
	c, is := read(text)
	if !is {
		rejects(t, text)
		return false
	}
	reads(t, text, c)
	writes(t, c, text)
	return true
}
