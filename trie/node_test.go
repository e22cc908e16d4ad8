package trie

import (
	"testing"

	"flocculus/addr"
	"flocculus/api"
)

// count is how many nodes there are from n on; it fails the test at one that is there for nothing, or at a place that isn't its own.
func count(t *testing.T, n *node) int {
	t.Helper()
	if n == nil {
		return 0
	}
	if !n.held && (n.kids[0] == nil || n.kids[1] == nil || n.route.Hop != 0) {
		t.Fatalf("%v has no route, and forks nothing", n.route)
	}
	for i, kid := range n.kids {
		if kid != nil && (kid.size() <= n.size() || !addr.Has(n.route.Prefix, kid.route.Prefix.Addr) || addr.Bit(kid.route.Prefix.Addr, n.size()) != i) {
			t.Fatalf("%v is on side %d of %v", kid.route, i, n.route)
		}
	}
	return 1 + count(t, n.kids[0]) + count(t, n.kids[1])
}

// TestNoMoreIsKeptThanNeeded has routes that come and go, and never more nodes than they need: one each, and a fork less than routes.
func TestNoMoreIsKeptThanNeeded(t *testing.T) {
	x := &Trie{}
	seed := uint64(14)
	next := func(n int) int {
		seed = seed*6364136223846793005 + 1442695040888963407
		return int(seed >> 33 % uint64(n))
	}
	var all []api.Prefix
	for range 3000 {
		size := next(129)
		p := api.Prefix{Addr: addr.Cut(api.Addr{Hi: uint64(next(8)) << 61, Lo: uint64(next(8)) << 20}, size), Len: size}
		all = append(all, p)
		x.Put(p, next(9))
		if next(3) > 0 {
			x.Delete(all[next(len(all))])
		}
		if got := count(t, x.root); got > max(0, 2*x.Len()-1) {
			t.Fatalf("%d routes have %d nodes", x.Len(), got)
		}
	}
	for _, p := range all {
		x.Delete(p)
	}
	if x.Len() != 0 || x.root != nil {
		t.Fatalf("%d routes are left, and %d nodes", x.Len(), count(t, x.root))
	}
}
