package image_test

import (
	"testing"

	"provost/api"
	"provost/image"
)

// The chapter's runs, byte by byte.

const annSigns = "\x14\x00\x00\x00\x00\x00\x00\x00\x03\x03ann\x04sign\x00\x00\x00\x00\x00"

func TestRuns(t *testing.T) {
	writes(t, api.Call{Op: 20, A: "ann", B: "sign", N: 3}, annSigns)
	writes(t, api.Call{Op: 1, N: -1}, "\x01"+row(8, 255)+row(7, 0))
	refuses(t, api.Call{Op: 0}, api.ErrArg)
	refuses(t, api.Call{Op: 256}, api.ErrArg)
	refuses(t, api.Call{Op: 1, A: row(256, 'a')}, api.ErrTooBig)
	refuses(t, api.Call{Op: 1, Text: row(65537, 't')}, api.ErrTooBig)
	reads(t, annSigns, api.Call{Op: 20, A: "ann", B: "sign", N: 3})
	rejects(t, annSigns+"\x00")
	rejects(t, annSigns[:len(annSigns)-1])
	rejects(t, "")
	rejects(t, "\x00"+annSigns[1:])
}

func TestExamples(t *testing.T) {
	if len(annSigns) != 23 {
		t.Error(len(annSigns))
	}
	raw, err := image.Write(api.Call{Op: 1})
	if len(raw) != 16 || err != api.OK {
		t.Error("the shortest call", len(raw), err)
	}
	for n := range 16 {
		rejects(t, string(raw[:n]))
	}
	rejects(t, "\x01"+row(8, 0)+row(3, 0)+"\x00\x01\x00\x01"+row(65537, 't'))
	reads(t, "\x01"+row(8, 0)+row(3, 0)+"\x00\x01\x00\x00"+row(65536, 't'), api.Call{Op: 1, Text: row(65536, 't')})
}
