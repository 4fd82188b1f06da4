package plan

import (
	"slices"

	"hayloft/api"
	"hayloft/expr"
)

// Check tells whether a query may be asked: OK or ErrPlanQuery.
func Check(c api.Catalog, q api.Query) api.Errno {
	columns, ok := columnsOf(c, q)
	if !ok || expr.Check(columns, q.Where) != api.OK || !answerMay(columns, q) || !orderMay(q) || q.Limit < 0 {
		return api.ErrPlanQuery
	}
	return api.OK
}

// columnsOf is the columns that a query may name: its table's and, if it joins, the other table's behind them; false, if there are no such tables, or they can't be joined so.
func columnsOf(c api.Catalog, q api.Query) ([]api.Column, bool) {
	if !within(q.Table, len(c.Tables)) {
		return nil, false
	}
	left := c.Tables[q.Table].Columns
	if !q.Join {
		return left, q.Right == 0 && q.LeftOn == 0 && q.RightOn == 0
	}
	if !within(q.Right, len(c.Tables)) {
		return nil, false
	}
	right := c.Tables[q.Right].Columns
	if !within(q.LeftOn, len(left)) || !within(q.RightOn, len(right)) || left[q.LeftOn].Kind != right[q.RightOn].Kind {
		return nil, false
	}
	return slices.Concat(left, right), true
}

// width is how many values a row of the answer has.
func width(q api.Query) int {
	if q.Group {
		return len(q.By) + len(q.Aggs)
	}
	return len(q.Columns)
}

// answerMay tells whether rows can be answered as a query wants them.
func answerMay(columns []api.Column, q api.Query) bool {
	if many := width(q); many == 0 || many > 2*api.MaxColumns {
		return false
	}
	if q.Group {
		return len(q.Columns) == 0 && placesMay(q.By, len(columns)) && aggsMay(q.Aggs, columns)
	}
	return len(q.By) == 0 && len(q.Aggs) == 0 && placesMay(q.Columns, len(columns))
}

func placesMay(places []int, many int) bool {
	for _, place := range places {
		if !within(place, many) {
			return false
		}
	}
	return true
}

func aggsMay(l []api.Agg, columns []api.Column) bool {
	for _, agg := range l {
		if !aggMay(agg, columns) {
			return false
		}
	}
	return true
}

func aggMay(agg api.Agg, columns []api.Column) bool {
	there := within(agg.Column, len(columns))
	switch agg.Op {
	case api.AggCount:
		return true
	case api.AggSum:
		return there && columns[agg.Column].Kind == api.KindInt
	case api.AggMin, api.AggMax:
		return there
	}
	return false
}

// orderMay tells whether an answer can be sorted as a query wants it: by places in the answer's rows, not in the tables.
func orderMay(q api.Query) bool {
	if len(q.Order) > api.MaxTerms {
		return false
	}
	for _, o := range q.Order {
		if !within(o.Column, width(q)) {
			return false
		}
	}
	return true
}
