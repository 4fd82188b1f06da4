package recover_test

import (
	"testing"

	"hayloft/recover"
)

// The chapter's examples, as they stand there.
func TestExamples(t *testing.T) {
	a, b, c := ver(1, 0, 3), ver(2, 0, 0), ver(4, 0, 0)
	alive := deletedAt(a, 0)
	wantVersions(t, "Upto((b, a, c), 2)", recover.Upto(list(b, a, c), 2), list(alive, b))
	wantVersions(t, "Upto((a, b, c), 3)", recover.Upto(list(a, b, c), 3), list(a, b))
	wantVersions(t, "Changes((a, b, c), 2, 3)", recover.Changes(list(a, b, c), 2, 3), list(a))
	wantVersions(t, "Changes((a, b, c), 0, 2)", recover.Changes(list(a, b, c), 0, 2), list(alive, b))
	wantVersions(t, "Changes((a, b, c), 3, 3)", recover.Changes(list(a, b, c), 3, 3), nil)
	wantVersions(t, "Merged((a with Deleted 0, b), (a with Deleted 3, c))", recover.Merged(list(alive, b), list(a, c)), list(a, b, c))
}
