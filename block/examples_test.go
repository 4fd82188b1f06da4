package block_test

import (
	"bytes"
	"testing"

	"hayloft/api"
	"hayloft/block"
	"hayloft/value"
)

// The chapter's examples, as they stand there.
func TestExamples(t *testing.T) {
	l := list(value.Bool(true))
	b, e := block.Write(api.EncPlain, l)
	if front := unhex(t, "00 01 00 01 01 01 01 00 02 01 01"); e != api.OK || len(b) != len(front)+4 || !bytes.HasPrefix(b, front) {
		t.Errorf("P7.1: %x, %d", b, e)
	}
	for _, kind := range append([]int{-1}, kinds...) {
		wantUnwritten(t, kind, nil, api.ErrBlockForm)
	}
	wantHeadless(t, "no bytes", nil)
	for bit := range 16 { // the encoding has two bytes, ahead of the sum
		b := write(t, api.EncPlain, l)
		b[9+bit/8] ^= 1 << (bit % 8)
		wantUnread(t, "a bit in the encoding", b, api.ErrBlockSum)
	}
}
