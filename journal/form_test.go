package journal_test

import (
	"bytes"
	"fmt"
	"math"
	"slices"
	"testing"

	"hayloft/api"
)

const mostLong = uint64(math.MaxUint64)

// ahead are records behind which: 1 and 2 were begun and decided, 3 is undecided, the last epoch is 1, the mark 0, node 1 is out.
func ahead() [][]byte {
	return [][]byte{openedRecord(), begunRecord(1), committedRecord(1, 1, someOps()...), begunRecord(2), abortedRecord(2), outRecord(1), begunRecord(3)}
}

// wantForm wants that records are refused, wherever the last one stands.
func wantForm(t *testing.T, what string, records ...[]byte) {
	t.Helper()
	for _, b := range [][]byte{logBytes(records...), together(records...), logBytes(append(slices.Clone(records), openedRecord())...)} {
		d := onDisk(t, b)
		wantNotOpened(t, what, d, 3, api.ErrJournalForm)
		if !bytes.Equal(file(t, d), b) {
			t.Errorf("P19.1: %s: the file has changed", what)
		}
	}
}

// wantFits wants that records are taken.
func wantFits(t *testing.T, what string, records ...[]byte) {
	t.Helper()
	open(t, what, onDisk(t, logBytes(records...)), 3)
}

// A record that is none.
func TestForm(t *testing.T) {
	wantFits(t, "what stands ahead", ahead()...)
	for what, record := range map[string][]byte{
		"no byte":                     {},
		"kind 0":                      {0},
		"kind 8":                      {8},
		"kind 255":                    {255},
		"kind 8, a number":            append([]byte{8}, long(3)...),
		"opened, and a byte":          {1, 0},
		"begun, no number":            {2},
		"begun, 7 bytes":              append([]byte{2}, long(4)[1:]...),
		"aborted, and a byte":         append(abortedRecord(3), 0),
		"aborted, 7 bytes":            append([]byte{4}, long(3)[1:]...),
		"aborted, cut off":            abortedRecord(3)[:8],
		"out, no node":                {5},
		"out, and a byte":             {5, 0, 0},
		"a member, no node":           {6},
		"a member, and a byte":        {6, 1, 1},
		"a mark, no number":           {7},
		"a mark, cut off":             markRecord(1)[:8],
		"a mark, and a byte":          append(markRecord(1), 0),
		"committed, no number":        {3},
		"committed, no epoch":         append([]byte{3}, long(3)...),
		"committed, no ops":           committedAs(3, 2, nil),
		"committed, and a byte":       append(committedRecord(3, 2), 0),
		"committed, one op too few":   committedAs(3, 2, []byte{1}),
		"committed, ops in a long":    committedAs(3, 2, []byte{253, 0, 0}),
		"committed, a great count":    committedAs(3, 2, []byte{254, 255, 255, 255, 255}),
		"committed, the greatest one": committedAs(3, 2, bytes.Repeat([]byte{255}, 9)),
	} {
		wantForm(t, what, append(ahead(), record)...)
	}
	whole := committedRecord(3, 2, someOps()...)
	wantFits(t, "some ops", append(ahead(), whole)...)
	for n := range whole {
		wantForm(t, fmt.Sprint("the first bytes of a record: ", n), append(ahead(), whole[:n])...)
	}
}

// What stands in a record of what was committed.
func TestFormOps(t *testing.T) {
	rowOf := func(b ...byte) []byte { return textBytes(b) }
	none := []byte{0}
	one := []byte{1}
	for what, op := range map[string][]byte{
		"an op cut off":              {0},
		"no rows":                    {0, 1},
		"no terms":                   {0, 1, 0},
		"kind 2":                     {2, 1, 0, 0},
		"kind 255":                   {255, 1, 0, 0},
		"an insert with a term":      slices.Concat([]byte{0, 1}, none, one, []byte{0, 0}, rowOf(1, 0)),
		"a delete with a row":        slices.Concat([]byte{1, 1}, one, rowOf(1, 0), none),
		"a row of no bytes":          slices.Concat([]byte{0, 1}, one, rowOf(), none),
		"a row that is cut off":      slices.Concat([]byte{0, 1}, one, rowOf(1), none),
		"a row, and a byte":          slices.Concat([]byte{0, 1}, one, rowOf(0, 0), none),
		"a row of no kind":           slices.Concat([]byte{0, 1}, one, rowOf(1, 4), none),
		"a row of 17 values":         slices.Concat([]byte{0, 1}, one, rowOf(append([]byte{17}, make([]byte, 17)...)...), none),
		"a row's length in a long":   slices.Concat([]byte{0, 1}, one, []byte{253, 0, 1, 0}, none),
		"a row too few":              slices.Concat([]byte{0, 1}, []byte{2}, rowOf(0), none),
		"a term of no value":         slices.Concat([]byte{1, 1}, none, one, []byte{0, 0}, rowOf(0)),
		"a term of two values":       slices.Concat([]byte{1, 1}, none, one, []byte{0, 0}, rowOf(2, 0, 0)),
		"a term of no row":           slices.Concat([]byte{1, 1}, none, one, []byte{0, 0}, rowOf()),
		"a term that is cut off":     slices.Concat([]byte{1, 1}, none, one, []byte{0}),
		"a term without its row":     slices.Concat([]byte{1, 1}, none, one, []byte{0, 0}),
		"a term of a bool that is 2": slices.Concat([]byte{1, 1}, none, one, []byte{0, 0}, rowOf(1, 1, 2)),
		"a term too few":             slices.Concat([]byte{1, 1}, none, []byte{2}, []byte{0, 0}, rowOf(1, 0)),
	} {
		wantForm(t, what, append(ahead(), committedAs(3, 2, append([]byte{1}, op...)))...)
		wantForm(t, what+", behind another one", append(ahead(), committedAs(3, 2, slices.Concat([]byte{2, 0, 0, 0, 0}, op)))...)
	}
	for what, op := range map[string][]byte{
		"an insert of nothing":    {0, 255, 0, 0},
		"a delete of all":         {1, 255, 0, 0},
		"an insert of a row":      slices.Concat([]byte{0, 1}, one, rowOf(1, 0), none),
		"an insert of 16 values":  slices.Concat([]byte{0, 1}, one, rowOf(append([]byte{16}, make([]byte, 16)...)...), none),
		"a delete with a term":    slices.Concat([]byte{1, 1}, none, one, []byte{0, 0}, rowOf(1, 0)),
		"a column, an op of 255":  slices.Concat([]byte{1, 1}, none, one, []byte{255, 255}, rowOf(1, 1, 1)),
		"a delete with two terms": slices.Concat([]byte{1, 1}, none, []byte{2}, []byte{0, 0}, rowOf(1, 0), []byte{0, 0}, rowOf(1, 0)),
	} {
		wantFits(t, what, append(ahead(), committedAs(3, 2, append([]byte{1}, op...)))...)
	}
}

// A record that does not fit, and the ones beside it that do.
func TestFits(t *testing.T) {
	decided := append(ahead(), abortedRecord(3))
	third := append(ahead(), committedRecord(3, 2))
	markedTwo := append(slices.Clone(third), markRecord(2))
	for _, x := range []struct {
		what   string
		ahead  [][]byte
		record []byte
		fits   bool
	}{
		{"opened", nil, openedRecord(), true},
		{"opened", ahead(), openedRecord(), true},
		{"begun 0 at first", nil, begunRecord(0), false},
		{"begun 1 at first", nil, begunRecord(1), true},
		{"begun 2 at first", nil, begunRecord(2), false},
		{"begun the greatest at first", nil, begunRecord(mostLong), false},
		{"begun while one is undecided", ahead(), begunRecord(4), false},
		{"begun the undecided one", ahead(), begunRecord(3), false},
		{"begun the one before", decided, begunRecord(3), false},
		{"begun the next one", decided, begunRecord(4), true},
		{"begun one too high", decided, begunRecord(5), false},
		{"begun 1 again", decided, begunRecord(1), false},
		{"begun behind a commit", third, begunRecord(4), true},
		{"begun one too high behind a commit", third, begunRecord(5), false},
		{"committed at first", nil, committedRecord(1, 1), false},
		{"committed 0 at first", nil, committedRecord(0, 1), false},
		{"committed the undecided one", ahead(), committedRecord(3, 2), true},
		{"committed the last one", ahead(), committedRecord(2, 2), false},
		{"committed the next one", ahead(), committedRecord(4, 2), false},
		{"committed as the last epoch", ahead(), committedRecord(3, 1), false},
		{"committed as epoch 0", ahead(), committedRecord(3, 0), false},
		{"committed one too high", ahead(), committedRecord(3, 3), false},
		{"committed as the greatest epoch", ahead(), committedRecord(3, mostLong), false},
		{"committed what was aborted", decided, committedRecord(3, 2), false},
		{"committed twice", third, committedRecord(3, 3), false},
		{"aborted at first", nil, abortedRecord(0), false},
		{"aborted 1 at first", nil, abortedRecord(1), false},
		{"aborted the undecided one", ahead(), abortedRecord(3), true},
		{"aborted the last one", ahead(), abortedRecord(2), false},
		{"aborted the next one", ahead(), abortedRecord(4), false},
		{"aborted twice", decided, abortedRecord(3), false},
		{"aborted what was committed", third, abortedRecord(3), false},
		{"a member out", nil, outRecord(0), true},
		{"the last node out", nil, outRecord(2), true},
		{"no node out", nil, outRecord(3), false},
		{"node 255 out", nil, outRecord(255), false},
		{"one that is out out", ahead(), outRecord(1), false},
		{"a member in", nil, memberRecord(0), false},
		{"no node in", nil, memberRecord(3), false},
		{"node 255 in", ahead(), memberRecord(255), false},
		{"one that is out in", ahead(), memberRecord(1), true},
		{"another one in", ahead(), memberRecord(0), false},
		{"mark 0 at first", nil, markRecord(0), false},
		{"mark 1 at first", nil, markRecord(1), false},
		{"the last epoch marked", ahead(), markRecord(1), true},
		{"the mark itself", ahead(), markRecord(0), false},
		{"behind the last epoch", ahead(), markRecord(2), false},
		{"the greatest epoch", ahead(), markRecord(mostLong), false},
		{"one ahead of the last epoch", third, markRecord(1), true},
		{"the last epoch of two", third, markRecord(2), true},
		{"the mark itself", markedTwo, markRecord(2), false},
		{"below the mark", markedTwo, markRecord(1), false},
		{"no mark", markedTwo, markRecord(0), false},
	} {
		records := append(slices.Clone(x.ahead), x.record)
		if x.fits {
			wantFits(t, x.what, records...)
		} else {
			wantForm(t, x.what, records...)
		}
	}
}

// Which nodes there are is said by Open alone.
func TestFitsNodes(t *testing.T) {
	d := onDisk(t, logBytes(outRecord(2), memberRecord(2)))
	wantNotOpened(t, "two nodes", d, 2, api.ErrJournalForm)
	wantNotOpened(t, "one node", d, 1, api.ErrJournalForm)
	if got := open(t, "three nodes", d, 3).Members(); !slices.Equal(got, []bool{true, true, true}) {
		t.Error("P19.2: Members:", got)
	}
	if got := open(t, "eight nodes", d, 8).Members(); len(got) != 8 || slices.Contains(got, false) {
		t.Error("P19.2: Members:", got)
	}
}
