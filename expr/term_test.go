package expr_test

import (
	"slices"
	"testing"

	"hayloft/api"
	"hayloft/value"
)

// What each term asks of an order, by rows: of a value that is below, like, above its own.
func TestTermOrders(t *testing.T) {
	l := rising()
	for op, want := range [][]bool{
		api.TermEqual:   {false, true, false},
		api.TermUnlike:  {true, false, true},
		api.TermBelow:   {true, false, false},
		api.TermAtMost:  {true, true, false},
		api.TermAbove:   {false, false, true},
		api.TermAtLeast: {false, true, true},
	} {
		for i, v := range l {
			for k, w := range l {
				is := 1
				if i < k {
					is = 0
				} else if i > k {
					is = 2
				}
				wantTerm(t, api.Term{Op: op, Value: w}, []api.Value{v}, want[is])
			}
		}
	}
}

// An order is asked of no null, on neither side; a null is one by its Kind alone.
func TestTermNulls(t *testing.T) {
	for _, op := range orders() {
		for _, null := range nulls() {
			for _, v := range everyValue() {
				wantTerm(t, api.Term{Op: op, Value: v}, []api.Value{null}, false)
				wantTerm(t, api.Term{Op: op, Value: null}, []api.Value{v}, false)
			}
		}
	}
}

// TermNull and TermFull ask for the Kind of what is there, and not for the term's own value.
func TestTermNullAndFull(t *testing.T) {
	for _, w := range everyValue() {
		for _, v := range everyValue() {
			null := v.Kind == api.KindNull
			wantTerm(t, api.Term{Op: api.TermNull, Value: w}, []api.Value{v}, null)
			wantTerm(t, api.Term{Op: api.TermFull, Value: w}, []api.Value{v}, !null)
		}
	}
}

// Values that are not right have an order too, by value.Compare.
func TestTermWrongValues(t *testing.T) {
	for _, k := range []struct {
		v    api.Value
		op   int
		w    api.Value
		want bool
	}{
		{api.Value{Kind: 9, Int: 1}, api.TermEqual, api.Value{Kind: 9, Int: 2}, true},
		{api.Value{Kind: 9, Int: 1}, api.TermUnlike, api.Value{Kind: 9, Int: 2}, false},
		{api.Value{Kind: 9}, api.TermAbove, value.Text("z"), true},
		{api.Value{Kind: -1}, api.TermBelow, value.Bool(false), true},
		{api.Value{Kind: -1}, api.TermEqual, api.Value{Kind: -1, Text: "a"}, true},
		{api.Value{Kind: 2, Int: 5, Text: "b"}, api.TermEqual, value.Int(5), true},
		{value.Int(5), api.TermAtMost, api.Value{Kind: 2, Int: 5, Bool: true}, true},
		{long(api.MaxText + 1), api.TermAbove, long(api.MaxText), true},
		{long(1000), api.TermEqual, long(1000), true},
	} {
		wantTerm(t, api.Term{Op: k.op, Value: k.w}, []api.Value{k.v}, k.want)
	}
	for op := range 8 {
		for _, v := range everyValue() {
			for _, w := range everyValue() {
				term := api.Term{Op: op, Value: w}
				wantTerm(t, term, []api.Value{v}, holds(term, []api.Value{v}))
			}
		}
	}
}

// Of a place that a row has not nothing is true, not even that there is a null.
func TestTermColumn(t *testing.T) {
	spare := []api.Value{value.Int(5), value.Null(), value.Int(5), value.Null()}
	row := spare[:2]
	for op := range 8 {
		for _, place := range append(ends(), 2, 3) {
			wantTerm(t, api.Term{Column: place, Op: op, Value: value.Int(5)}, row, false)
		}
		wantTerm(t, api.Term{Op: op, Value: value.Int(5)}, nil, false)
		wantTerm(t, api.Term{Op: op, Value: value.Int(5)}, spare[:0], false)
	}
	for place := range 10 {
		l := make([]api.Value, 10)
		l[place] = value.Int(5)
		for column := range 10 {
			wantTerm(t, api.Term{Column: column, Value: value.Int(5)}, l, column == place)
			wantTerm(t, api.Term{Column: column, Op: api.TermFull}, l, column == place)
			wantTerm(t, api.Term{Column: column, Op: api.TermNull}, l, column != place)
		}
	}
}

func TestTermOp(t *testing.T) {
	for _, op := range ends() {
		for _, v := range everyValue() {
			for _, w := range everyValue() {
				wantTerm(t, api.Term{Op: op, Value: w}, []api.Value{v}, false)
			}
		}
	}
}

func TestAll(t *testing.T) {
	row := []api.Value{value.Int(5), value.Text("a"), value.Null()}
	wantAll(t, nil, row, true)
	wantAll(t, []api.Term{}, nil, true)
	good := []api.Term{
		{Column: 0, Op: api.TermAtLeast, Value: value.Int(5)},
		{Column: 0, Op: api.TermBelow, Value: value.Int(6)},
		{Column: 1, Op: api.TermUnlike, Value: value.Text("b")},
		{Column: 2, Op: api.TermNull},
	}
	for _, bad := range []api.Term{
		{Column: 0, Op: api.TermUnlike, Value: value.Int(5)},
		{Column: 2, Op: api.TermUnlike, Value: value.Int(5)},
		{Column: 2, Op: api.TermFull},
		{Column: 3, Op: api.TermNull},
		{Column: 0, Op: 8, Value: value.Int(5)},
	} {
		for place := range len(good) + 1 {
			wantAll(t, good[:place], row, true)
			wantAll(t, slices.Insert(slices.Clone(good), place, bad), row, false)
		}
		wantAll(t, []api.Term{bad}, row, false)
		wantAll(t, append(slices.Clone(good), bad)[:4], row, true) // what is spare is not asked
	}
	// More terms than Check would take.
	many := slices.Repeat(good, 50)
	wantAll(t, many, row, true)
	wantAll(t, append(many, api.Term{Column: 2}), row, false)
}
