package rows_test

import (
	"testing"

	"hayloft/rows"
	"hayloft/value"
)

// The chapter's examples, as they stand there.
func TestExamples(t *testing.T) {
	wantEncode(t, nil, "00")
	wantEncode(t, row(value.Null(), value.Bool(true), value.Int(1), value.Text("ab")), "04 00 01 01 02 00 00 00 00 00 00 00 01 03 02 61 62")
	wantKey(t, row(value.Int(-1)), "02 7f ff ff ff ff ff ff ff")
	wantKey(t, row(value.Text("a")), "03 61 00 00")
	wantKey(t, row(value.Text("")), "03 00 00")
	if n := rows.Segment(value.Null(), 1); n != 0 {
		t.Error("P3.3: one segment:", n)
	}
	if n := rows.Segment(value.Null(), 0); n != 0 {
		t.Error("P3.3: no segment:", n)
	}
	wantNoRow(t, nil)
	wantNoRow(t, []byte{1})
}
