package encode_test

import (
	"testing"

	"hayloft/api"
	"hayloft/encode"
	"hayloft/value"
)

// The chapter's examples, as they stand there.
func TestExamples(t *testing.T) {
	wantBytes(t, api.EncRuns, list(value.Int(5), value.Int(5), value.Null()), "02 02 00 00 00 00 00 00 00 05 01 00")
	wantBytes(t, api.EncDelta, ints(5, 4, 6), "00 00 00 00 00 00 00 05 01 04")
	wantBytes(t, api.EncDict, texts("b", "a", "b"), "02 03 01 61 03 01 62 05")
	wantBytes(t, api.EncBits, ints(7, 5, 6), "00 00 00 00 00 00 00 05 02 12")
	wantRefused(t, api.EncDelta, list(value.Null()), api.ErrEncodeKind)
	wantRefused(t, 9, nil, api.ErrEncodeKind)
	for _, kind := range kinds {
		wantBytes(t, kind, nil, "")
	}
	if k := encode.Best(ints(5, 5, 5)); k != api.EncBits {
		t.Error("P6.3:", k)
	}
	for kind, want := range map[int]int{api.EncBits: 9, api.EncDelta: 10, api.EncRuns: 10} {
		if b, e := encode.Encode(kind, ints(5, 5, 5)); e != api.OK || len(b) != want {
			t.Errorf("P6.1: kind %d: %x, %d", kind, b, e)
		}
	}
}
