package exec_test

import (
	"iter"
	"math"
	"slices"
	"strings"
	"testing"

	"hayloft/api"
	"hayloft/value"
)

// row is one of ints, bools, texts, nulls (nil) and values as they are.
func row(l ...any) []api.Value {
	out := []api.Value{}
	for _, x := range l {
		switch x := x.(type) {
		case int:
			out = append(out, value.Int(int64(x)))
		case bool:
			out = append(out, value.Bool(x))
		case string:
			out = append(out, value.Text(x))
		case api.Value:
			out = append(out, x)
		default:
			out = append(out, value.Null())
		}
	}
	return out
}

// list is a list of rows.
func list(l ...[]api.Value) [][]api.Value { return l }

// ones are rows of one value each.
func ones(l ...any) [][]api.Value {
	var out [][]api.Value
	for _, x := range l {
		out = append(out, row(x))
	}
	return out
}

func copyOf(l [][]api.Value) [][]api.Value {
	var out [][]api.Value
	for _, r := range l {
		out = append(out, slices.Clone(r))
	}
	return out
}

func same(a, b [][]api.Value) bool {
	return slices.EqualFunc(a, b, func(a, b []api.Value) bool { return slices.Equal(a, b) })
}

// source gives rows, and counts how often it is gone over, and how many rows are asked for in all.
type source struct {
	rows         [][]api.Value
	times, asked int
}

func of(rows ...[]api.Value) *source { return &source{rows: rows} }

// all gives each row in one and the same memory, as a source may that keeps none of them.
func (s *source) all(yield func([]api.Value) bool) {
	s.times++
	var buffer []api.Value
	for i := 0; ; i++ {
		s.asked++
		if i == len(s.rows) {
			return
		}
		buffer = append(buffer[:0], s.rows[i]...)
		if !yield(buffer) {
			return
		}
	}
}

// endless gives rows of 0, 1, 2 and so on for ever.
func endless(yield func([]api.Value) bool) {
	for i := 0; yield(row(i)); i++ {
	}
}

// wantRows goes over an iterator twice.
func wantRows(t *testing.T, what string, rows iter.Seq[[]api.Value], want [][]api.Value) {
	t.Helper()
	for range 2 {
		if l := slices.Collect(rows); !same(l, want) {
			t.Errorf("%s: %v, want %v", what, l, want)
			return
		}
	}
}

func wantAsked(t *testing.T, what string, s *source, times, asked int) {
	t.Helper()
	if s.times != times || s.asked != asked {
		t.Errorf("%s: gone over %d times, %d rows asked for; want %d, %d", what, s.times, s.asked, times, asked)
	}
}

// ends are numbers that are no place in a row, and no Op.
func ends() []int {
	return []int{-1, -2, -8, 8, 9, 100, 1 << 32, math.MinInt, math.MinInt + 1, math.MaxInt, math.MaxInt - 1}
}

func long(n int) string { return strings.Repeat("a", n) }

// rising are right values that are not null, each below those behind it.
func rising() []api.Value {
	return row(false, true, math.MinInt64, -1, 0, 1, math.MaxInt64, "", "\x00", "10", "9", "a", "aa", long(api.MaxText), "\xff")
}

// nulls are of KindNull, right and not right.
func nulls() []api.Value {
	return []api.Value{value.Null(), {Bool: true}, {Int: 5}, {Text: "a"}}
}

// wrongs are neither null nor right.
func wrongs() []api.Value {
	return []api.Value{
		{Kind: 1, Int: 1}, {Kind: 1, Text: "a"},
		{Kind: 2, Bool: true}, {Kind: 2, Int: 1, Text: "a"},
		{Kind: 3, Text: "a", Int: 1}, {Kind: 3, Bool: true},
		value.Text(long(api.MaxText + 1)),
		{Kind: 4}, {Kind: 4, Int: 1}, {Kind: 9, Int: 1}, {Kind: 9, Text: "a"}, {Kind: -1}, {Kind: math.MinInt}, {Kind: math.MaxInt},
	}
}

func everyValue() []api.Value { return slices.Concat(rising(), nulls(), wrongs()) }

// walk goes over all rows.
func walk(rows iter.Seq[[]api.Value]) {
	for range rows {
	}
}
