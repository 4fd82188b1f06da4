package value

import (
	"cmp"

	"hayloft/api"
)

// Compare is the order of values: -1, 0, 1, if a is below, like, above b.
func Compare(a, b api.Value) int {
	if a.Kind != b.Kind {
		return cmp.Compare(a.Kind, b.Kind)
	}
	switch a.Kind {
	case api.KindBool:
		return bools(a.Bool, b.Bool)
	case api.KindInt:
		return cmp.Compare(a.Int, b.Int)
	case api.KindText:
		return cmp.Compare(a.Text, b.Text)
	}
	return 0
}

func bools(a, b bool) int {
	if a == b {
		return 0
	}
	if b {
		return -1
	}
	return 1
}

// Rows is the order of rows: value by value; one that is the beginning of another is below it.
func Rows(a, b []api.Value) int {
	for i := range min(len(a), len(b)) {
		if c := Compare(a[i], b[i]); c != 0 {
			return c
		}
	}
	return cmp.Compare(len(a), len(b))
}
