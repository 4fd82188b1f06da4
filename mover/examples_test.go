package mover_test

import (
	"testing"

	"hayloft/api"
	"hayloft/mover"
)

// The chapter's examples, as they stand there.
func TestExamples(t *testing.T) {
	wantVersions(t, "Join(none, none, 5)", mover.Join(nil, nil, 5))
	two, one := ver(a, 1, 0, 2, 0), ver(a, 2, 0, 1, 0)
	wantVersions(t, "Join(0, ((2: name 1.0), (1: name 2.0)), 0)", mover.Join([]int{0}, [][]api.Version{{two, one}}, 0), one, two)
	wantVersions(t, "the same in two lists", mover.Join([]int{0}, [][]api.Version{{two}, {one}}, 0), one, two)

	x, y := ver(a, 1, 0, 5, 3), ver(a, 1, 1, 5, 4)
	wantVersions(t, "Join(none, ((x, deleted 3), (y, deleted 4)), 3)", mover.Join(nil, [][]api.Version{{x, y}}, 3), y)
	wantVersions(t, "the same in two lists", mover.Join(nil, [][]api.Version{{x}, {y}}, 3), y)

	p := begin(t)
	p.answers("of an empty segment", out(), a, nil, 0, api.OK)
	p.answers("of one that there is not", out(), nowhere, nil, 0, api.ErrArg)
}
