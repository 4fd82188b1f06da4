package encode

import "hayloft/api"

// Runs gives values, run by run: how many there are, and the value.
func Runs(l []api.Value) []Run {
	var runs []Run
gather:
	for len(l) > 0 {
		for i, v := range l {
			if v != l[0] {
				runs = append(runs, Run{Many: i, Value: l[0]})
				l = l[i:]
				continue gather
			}
		}
		runs = append(runs, Run{Many: len(l), Value: l[0]})
		break gather
	}
	return runs
}

// Run is so many of a value.
type Run struct {
	Many  int
	Value api.Value
}

// putRuns writes of each run how many there are, and the value's bytes.
func putRuns(l []api.Value) []byte {
	var pieces [][]byte
	for _, r := range Runs(l) {
		pieces = append(pieces, []byte{byte(r.Many)}, valueBytes(r.Value))
	}
	return join(pieces...)
}

// takeRuns reads runs till there are so many values, or more.
func takeRuns(b []byte, many int) ([]api.Value, bool) {
	var l []api.Value
	for len(l) < many {
		if len(b) == 0 {
			return nil, false
		}
		v, size := takeValue(b[1:])
		if size == 0 {
			return nil, false
		}
		for range int(b[0]) {
			l = append(l, v)
		}
		b = b[1+size:]
	}
	return l, true
}
