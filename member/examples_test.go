package member_test

import (
	"testing"

	"hayloft/api"
)

// The chapter's examples, as they stand there.
func TestExamples(t *testing.T) {
	m, _ := begin(t, 0)
	wantSaid(t, "MsgProbe 7", m.Take(probe(7)), hello(7, 0, false))
	wantSaid(t, "MsgDecide {Epoch 0}", m.Take(decide(0, 0)), throughTold(0, 0))
	wantSaid(t, "MsgPrepare {Txn 1, Base 1}", m.Take(prepare(1, 1, api.Part{})), throughTold(0, 0))

	wantSaid(t, "MsgPrepare {Txn 3, no part}", m.Take(prepare(3, 0, api.Part{})), vote(3, true))
	wantSaid(t, "MsgPrepare {Txn 2}", m.Take(prepare(2, 0, api.Part{})))
	wantSaid(t, "MsgPrepare {Txn 3}", m.Take(prepare(3, 0, api.Part{})), vote(3, true))

	wantSaid(t, "MsgDecide {1, 3}", m.Take(decide(1, 3)), throughTold(1, 0))
	wantSaid(t, "MsgDecide {1, 3} again", m.Take(decide(1, 3)), throughTold(1, 0))
	wantSaid(t, "MsgDecide {2, 9}", m.Take(decide(2, 9)), hello(0, 1, true))
	wantSaid(t, "MsgProbe 8", m.Take(probe(8)), hello(8, 1, true))

	other := probe(9)
	other.From = 1
	wantSaid(t, "MsgProbe from 1", m.Take(other))
	other = probe(9)
	other.To = 1
	wantSaid(t, "MsgProbe to 1", m.Take(other))
}
