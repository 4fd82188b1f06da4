package wire_test

import (
	"testing"

	"hayloft/api"
)

// The chapter's examples, as they stand there.
func TestExamples(t *testing.T) {
	wantWritten(t, "a mark", api.Message{Kind: api.MsgMark, From: 2, To: 1, Mark: 5}, unhex(t, "0b 02 01 00 00 00 00 00 00 00 05"))
	wantRefused(t, "a mark with an Epoch", api.Message{Kind: api.MsgMark, Epoch: 1})
	wantRefused(t, "kind 13", api.Message{Kind: 13})
	wantRefused(t, "a hello from 9", api.Message{Kind: api.MsgHello, From: 9})
	wantNone(t, "none", nil)
}
