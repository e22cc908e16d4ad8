package level

import (
	"testing"

	"flocculus/api"
	"flocculus/delta"
	"flocculus/filter"
	"flocculus/mixer"
	"flocculus/pick"
)

// TestFilterAndTable holds what Look can't tell apart: the filter has the level's seed, the table the mixed one, each its own size, and each key goes once to the places that these tell.
func TestFilterAndTable(t *testing.T) {
	for _, seed := range []uint64{0, 7, 1 << 63} {
		for _, x := range [][3]int{{1, 1, 1}, {3, 100, 8}, {16, 65, 1000}, {2, api.MaxBits, 3}} {
			l, e := New(8, seed, x[0], x[1], x[2])
			if e != api.OK {
				t.Fatalf("P2101: New of %v: %d", x, e)
			}
			if s, n, stash := l.table.Size(); s != mixer.Mix(seed) || n != x[2] || stash != 0 || l.filter.Len() != x[1] {
				t.Fatalf("P2101: New of %v: a table of %#x and %d buckets, a filter of %d bits", x, s, n, l.filter.Len())
			}
			counts := make([]int, x[1])
			for i := range uint64(4) {
				p := api.Prefix{Addr: api.Addr{Hi: i << 56}, Len: 8}
				l.Turn(delta.Change{Key: p, New: 5}, delta.Change{Key: p, New: 6})
				for _, at := range pick.Places(seed, p, x[0], x[1]) {
					counts[at] = min(counts[at]+1, api.Top)
				}
				counted(t, l.filter, counts)
			}
		}
	}
}

// counted fails the test where the counters of f are others.
func counted(t *testing.T, f *filter.Filter, want []int) {
	t.Helper()
	for i, n := range want {
		if got := f.Counter(i); got != n {
			t.Fatalf("P2101: counter %d of %d is at %d, want %d", i, len(want), got, n)
		}
	}
}
