package catalog_test

import (
	"testing"

	"hayloft/api"
)

// The chapter's examples, as they stand there.
func TestExamples(t *testing.T) {
	c := example()
	wantCheck(t, "c", c, api.OK)
	wantNodes(t, c, seg(0, 0), 2, 0)
	wantNodes(t, c, seg(0, 1), 0, 1)
	wantNodes(t, c, seg(0, 2))
	wantOf(t, c, 0, seg(0, 0), seg(0, 1))
	wantCovered(t, c, true, true, false, false)
	wantCovered(t, c, false, false, true, false)

	c.K = 3
	wantCheck(t, "with K 3", c, api.ErrCatalogNodes)
	c = example()
	c.Projs = nil
	wantCheck(t, "without the projection", c, api.ErrCatalogCover)
	c = example()
	c.K, c.Segments = 0, 1
	wantCheck(t, "with K 0 and 1 segment", c, api.ErrCatalogNodes)
}
