package extent

import (
	"testing"

	"slabvault/api"
)

// P5.4: a sum of Sizes about 2^62. No list that a test can make is so long, so the sum's own step is asked for.
func TestTotalsAboutTheirLimit(t *testing.T) {
	const limit = 1 << 62
	for _, x := range []struct{ sum, size, want int }{
		{0, 0, 0},
		{0, api.MaxFile, api.MaxFile},
		{limit - api.MaxFile - 1, api.MaxFile, limit - 1},
		{limit - api.MaxFile, api.MaxFile, limit},
		{limit - api.MaxFile + 1, api.MaxFile, limit},
		{limit - 1, 0, limit - 1},
		{limit - 1, 1, limit},
		{limit - 1, 2, limit},
		{limit, 0, limit},
		{limit, 1, limit},
		{limit, api.MaxFile, limit},
	} {
		if got := withSize(x.sum, x.size); got != x.want {
			t.Errorf("withSize(%d, %d) = %d; want %d", x.sum, x.size, got, x.want)
		}
	}
}
