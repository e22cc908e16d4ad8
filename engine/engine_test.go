package engine_test

import (
	"math"
	"slices"
	"sync"
	"testing"

	"flocculus/addr"
	"flocculus/api"
	"flocculus/cover"
	"flocculus/delta"
	"flocculus/edges"
	"flocculus/engine"
	"flocculus/filter"
	"flocculus/mixer"
)

// clear is a config of 4 bits, one of them in the direct array, whose filters take no key for another; tight is one whose filters have one bit, which is on if any key is there. Their levels are of 2 and 4 bits.
var (
	clear = api.Config{Width: 4, Direct: 1, Levels: 2, Stride: 3, Hashes: 4, Bits: 1 << 17, Least: 1 << 16, Buckets: 1, Routes: 20, Hops: 20}
	tight = api.Config{Width: 4, Direct: 1, Levels: 2, Stride: 3, Hashes: 1, Bits: 2, Least: 1, Buckets: 1, Routes: 20, Hops: 20}
	pair  = []int{2, 4}
)

// at is the address whose first bits are text.
func at(text string) api.Addr {
	return edges.Read(text).Addr
}

// sees fails the test where Look of a is another hop, or has other levels probed.
func sees(t *testing.T, what string, e *engine.Engine, a api.Addr, hop int, probed ...int) {
	t.Helper()
	if got, l := e.Look(a); got != hop || !slices.Equal(l, probed) {
		t.Fatalf("%s: Look(%v) is %d, %v, want %d, %v", what, a, got, l, hop, probed)
	}
}

// keeps fails the test where the routes are others, or a level has other keys than they make there.
func keeps(t *testing.T, what string, e *engine.Engine, low int, want ...api.Route) {
	t.Helper()
	if got := e.Routes(); !slices.Equal(got, want) {
		t.Fatalf("%s: Routes are %v, want %v", what, got, want)
	}
	for i, n := range e.Levels() {
		if got, _ := e.Level(i); !slices.Equal(got, cover.Set(want, low, n)) {
			t.Fatalf("%s: Level %d, of %d bits, has %v, want %v", what, i, n, got, cover.Set(want, low, n))
		}
		low = n
	}
}

// byLess has l in the order of addr.Less.
func byLess(l []api.Route) []api.Route {
	slices.SortFunc(l, func(a, b api.Route) int {
		if addr.Less(a.Prefix, b.Prefix) {
			return -1
		}
		return 1
	})
	return l
}

// longest is the hop of the longest route that a begins with, of those of at most n bits, or -1.
func longest(l []api.Route, a api.Addr, n int) int {
	best := api.Route{Prefix: api.Prefix{Len: -1}, Hop: -1}
	for _, r := range l {
		if r.Prefix.Len <= n && r.Prefix.Len > best.Prefix.Len && addr.Common(r.Prefix.Addr, a) >= r.Prefix.Len {
			best = r
		}
	}
	return best.Hop
}

func TestByHand(t *testing.T) {
	e := made(t, clear, 7, pair, nil)
	e.Put(edges.Route("1", 5))
	sees(t, "P2202: a route in the direct array", e, at("1000"), 5)
	sees(t, "P2202: beside it", e, at("0111"), -1)
	e.Put(edges.Route("", 6))
	sees(t, "P2202: the longer of two", e, at("1000"), 5)
	sees(t, "P2202: the shorter of two", e, at("0111"), 6)
	e.Put(edges.Route("101", 7))
	keeps(t, "P2202: a route of the last level", e, 1, edges.Route("", 6), edges.Route("1", 5), edges.Route("101", 7))
	sees(t, "P2202: a route of the last level", e, at("1010"), 7, 4)
	sees(t, "P2202: a route of the last level", e, at("1011"), 7, 4)
	sees(t, "P2202: beside it", e, at("1001"), 5)
	e.Put(edges.Route("10", 0))
	sees(t, "P2202: a route of the first level", e, at("1001"), 0, 2)
	sees(t, "P2202: the last level is asked first", e, at("1011"), 7, 4)
	e.Put(edges.Route("1010", math.MaxInt))
	sees(t, "P2202: a longer one", e, at("1010"), math.MaxInt, 4)
	sees(t, "P2202: beside it", e, at("1011"), 7, 4)
	e.Put(edges.Route("101", 8))
	keeps(t, "P2202: another hop", e, 1, edges.Route("", 6), edges.Route("1", 5), edges.Route("10", 0), edges.Route("101", 8), edges.Route("1010", math.MaxInt))
	sees(t, "P2202: another hop", e, at("1010"), math.MaxInt, 4)
	sees(t, "P2202: another hop", e, at("1011"), 8, 4)
	gone := func(text string, was bool) {
		t.Helper()
		if e.Delete(edges.Read(text)) != was {
			t.Fatalf("P2202: Delete of %s is not %v", text, was)
		}
	}
	gone("1010", true)
	sees(t, "P2202: one gone", e, at("1010"), 8, 4)
	gone("1010", false)
	gone("101", true)
	sees(t, "P2202: two gone", e, at("1010"), 0, 2)
	gone("1", true)
	sees(t, "P2202: one of the direct array gone", e, at("1111"), 6)
	sees(t, "P2202: one of the direct array gone", e, at("1010"), 0, 2)
	gone("10", true)
	gone("", true)
	sees(t, "P2202: all gone", e, at("1010"), -1)
	keeps(t, "P2202: all gone", e, 1)
}

// TestProbes has filters that say yes to any key if one is there: from the last level down to the first that has it each is probed.
func TestProbes(t *testing.T) {
	e := made(t, tight, 7, pair, nil)
	e.Put(edges.Route("0", 5))
	sees(t, "P2202: no keys", e, at("0000"), 5)
	e.Put(edges.Route("11", 6))
	sees(t, "P2202: a key of the first level", e, at("1111"), 6, 2)
	sees(t, "P2202: beside a key of the first level", e, at("0000"), 5, 2)
	sees(t, "P2202: beside a key of the first level", e, at("1000"), -1, 2)
	e.Put(edges.Route("0110", 7))
	sees(t, "P2202: keys of both", e, at("0110"), 7, 4)
	sees(t, "P2202: keys of both", e, at("1111"), 6, 4, 2)
	sees(t, "P2202: beside keys of both", e, at("0000"), 5, 4, 2)
	sees(t, "P2202: beside keys of both", e, at("1000"), -1, 4, 2)
	e.Delete(edges.Read("11"))
	sees(t, "P2202: the first level's gone", e, at("1111"), -1, 4)
	e.Delete(edges.Read("0110"))
	sees(t, "P2202: both gone", e, at("0110"), 5)
	sees(t, "P2202: both gone", e, at("1111"), -1)
}

// TestACounterAtItsTop has so many keys come and go that the filter says from then on that any may be there.
func TestACounterAtItsTop(t *testing.T) {
	for keys := 12; keys <= 16; keys++ {
		e := made(t, tight, 7, pair, nil)
		for i := range keys {
			e.Put(api.Route{Prefix: api.Prefix{Addr: api.Addr{Hi: uint64(i) << 60}, Len: 4}, Hop: i})
		}
		for i := range keys {
			e.Delete(api.Prefix{Addr: api.Addr{Hi: uint64(i) << 60}, Len: 4})
		}
		keeps(t, "P2202: all gone", e, 1)
		if keys < api.Top {
			sees(t, "P2202: below the top", e, at("0000"), -1)
		} else {
			sees(t, "P2202: at the top", e, at("0000"), -1, 4)
		}
	}
}

// TestKeysThatStayAreCountedOnce has routes turn that move no key, or move its hop alone: a filter of one bit is told of none of it.
func TestKeysThatStayAreCountedOnce(t *testing.T) {
	e := made(t, tight, 7, pair, nil)
	for hop := range 40 {
		e.Put(edges.Route("1010", hop))
		e.Put(edges.Route("101", hop+1))
		e.Put(edges.Route("1011", hop+2))
		sees(t, "P2202: one that stays", e, at("1010"), hop, 4)
		e.Delete(edges.Read("101"))
		e.Put(edges.Route("1", hop))
		sees(t, "P2202: one that stays", e, at("1011"), hop+2, 4)
	}
	e.Delete(edges.Read("1011"))
	sees(t, "P2202: one of two gone", e, at("1010"), 39, 4)
	e.Delete(edges.Read("1010"))
	sees(t, "P2202: both gone", e, at("1010"), 39)
}

// TestEveryOrder has the same routes come, and some go, in every order: the same stand behind them, and the same is answered.
func TestEveryOrder(t *testing.T) {
	all := []api.Route{edges.Route("", 1), edges.Route("1", 2), edges.Route("10", 3), edges.Route("101", 4), edges.Route("1010", 5), edges.Route("1011", 6)}
	edges.Each(all, func(l []api.Route) {
		e := made(t, clear, 7, pair, nil)
		for i, r := range l {
			e.Put(r)
			keeps(t, "P2202: routes come", e, 1, byLess(slices.Clone(l[:i+1]))...)
		}
		sees(t, "P2202: all there", e, at("1010"), 5, 4)
		sees(t, "P2202: all there", e, at("1000"), 3, 2)
		sees(t, "P2202: all there", e, at("1100"), 2)
		sees(t, "P2202: all there", e, at("0000"), 1)
		for i, r := range l {
			if !e.Delete(r.Prefix) || e.Delete(r.Prefix) {
				t.Fatalf("P2202: Delete of %v, and again", r)
			}
			left := byLess(slices.Clone(l[i+1:]))
			keeps(t, "P2202: routes go", e, 1, left...)
			for _, text := range []string{"1010", "1011", "1000", "1100", "0000"} {
				if hop, _ := e.Look(at(text)); hop != longest(left, at(text), 4) {
					t.Fatalf("P2202: Look(%s) is %d, and %v are left", text, hop, left)
				}
			}
		}
	})
}

// TestDeleteOfOthers has none gone but the prefix itself: not a shorter or a longer one, and not its neighbour.
func TestDeleteOfOthers(t *testing.T) {
	e := made(t, clear, 7, pair, nil)
	e.Put(edges.Route("00", 4))
	e.Put(edges.Route("101", 5))
	for _, text := range []string{"", "0", "000", "0000", "1", "10", "100", "1010", "1011", "01", "11"} {
		if e.Delete(edges.Read(text)) {
			t.Errorf("P2202: Delete of %q, which is not there", text)
		}
		keeps(t, "P2202: gone what was not there", e, 1, edges.Route("00", 4), edges.Route("101", 5))
	}
	sees(t, "P2202: gone what was not there", e, at("1010"), 5, 4)
	sees(t, "P2202: gone what was not there", e, at("0010"), 4, 2)
}

// TestWhatThereCantBe has prefixes that are none or too long, and hops below 0: they turn nothing, also where the prefix is there.
func TestWhatThereCantBe(t *testing.T) {
	for _, n := range []int{1, 2, 7, 8, 9, 32, 64, 65, 127, 128} {
		e, l := chainEngine(t, n, 7)
		stand := edges.Chain(edges.Samples()[4])[:n+1]
		for _, r := range stand {
			e.Put(r)
		}
		low := min(n, 8)
		seen := func(what string) {
			t.Helper()
			keeps(t, what, e, low, byLess(slices.Clone(stand))...)
			if !slices.Equal(e.Levels(), l) {
				t.Fatalf("%s: Levels are %v, want %v", what, e.Levels(), l)
			}
		}
		for _, p := range wrong(n) {
			for _, hop := range []int{0, 1, 300, math.MaxInt, -1} {
				e.Put(api.Route{Prefix: p, Hop: hop})
			}
			if e.Delete(p) {
				t.Fatalf("P2202: Delete of %v in one of %d bits", p, n)
			}
		}
		seen("P2202: prefixes that there can't be")
		for _, r := range stand {
			for _, hop := range []int{-1, -2, math.MinInt, math.MinInt32, math.MinInt + 1, -1 << 32} {
				e.Put(api.Route{Prefix: r.Prefix, Hop: hop})
			}
		}
		e.Put(api.Route{Prefix: edges.First(edges.Samples()[1], n), Hop: -1})
		seen("P2202: hops below 0")
	}
}

// wrong are prefixes that one of n bits can't have: none at all, and ones that are too long.
func wrong(n int) []api.Prefix {
	out := edges.Wrong()
	for _, a := range edges.Samples() {
		for m := n + 1; m <= 130; m++ {
			out = append(out, edges.First(a, m), api.Prefix{Addr: addr.Cut(a, n), Len: m})
		}
		for i := range 128 {
			out = append(out, api.Prefix{Addr: edges.Flip(addr.Cut(a, min(i, n)), i), Len: min(i, n)})
		}
		for _, m := range edges.Wild() {
			out = append(out, api.Prefix{Addr: a, Len: m}, api.Prefix{Len: m})
		}
	}
	return out
}

// chainEngine makes one of so many bits, as many of them as can be in the direct array, with levels that are as far apart as they can be.
func chainEngine(t *testing.T, n int, seed uint64) (*engine.Engine, []int) {
	t.Helper()
	c := api.Config{Width: n, Direct: min(n, 8), Levels: 20, Stride: 6, Hashes: 2, Bits: 1 << 20, Least: 64, Buckets: 1}
	var l []int
	for low := c.Direct; low < n; {
		low = min(low+6, n)
		l = append(l, low)
	}
	return made(t, c, seed, l, nil), l
}

// TestChains has a route of each length, all of one address, and turns each bit of it: the route ahead of the bit is the longest then. They are taken out from the longest on.
func TestChains(t *testing.T) {
	for _, a := range edges.Samples() {
		for _, n := range []int{1, 5, 8, 9, 63, 64, 65, 128} {
			e, l := chainEngine(t, n, 3)
			all := edges.Chain(a)[:n+1]
			for _, r := range all {
				e.Put(r)
			}
			for i := range 128 {
				if hop, _ := e.Look(edges.Flip(a, i)); hop != all[min(i, n)].Hop {
					t.Fatalf("P2203: Look of %d bits with bit %d turned is %d", n, i, hop)
				}
			}
			for m := n; m >= 0; m-- {
				hop, probed := e.Look(a)
				if want := bitsFor(l, m); hop != m+1000 || want > 0 && probed[len(probed)-1] != want {
					t.Fatalf("P2203: Look of %d bits with up to %d left is %d, %v", n, m, hop, probed)
				}
				if !e.Delete(edges.First(a, m)) {
					t.Fatalf("P2202: Delete of %d bits", m)
				}
			}
			sees(t, "P2203: all gone", e, a, -1)
		}
	}
}

// bitsFor is the level that routes of m bits are in, or 0 for the direct array.
func bitsFor(l []int, m int) int {
	if m <= 8 {
		return 0
	}
	i, _ := slices.BinarySearch(l, m)
	return l[i]
}

// TestNoLevels has all of an address in the direct array, and a route of each prefix there.
func TestNoLevels(t *testing.T) {
	for n := 1; n <= 8; n++ {
		e, l := chainEngine(t, n, 5)
		if len(l) != 0 || len(e.Levels()) != 0 {
			t.Fatalf("P2203: Levels of %d bits: %v", n, e.Levels())
		}
		var stand []api.Route
		for m := range n + 1 {
			for i := range uint64(1) << m {
				r := api.Route{Prefix: api.Prefix{Addr: api.Addr{Hi: i << 1 << (63 - m)}, Len: m}, Hop: m*1000 + int(i)}
				e.Put(r)
				stand = append(stand, r)
			}
			for x := range uint64(256) {
				sees(t, "P2202: no levels", e, api.Addr{Hi: x<<56 | 1, Lo: 1}, m*1000+int(x>>(8-m)))
			}
		}
		keeps(t, "P2202: no levels", e, n, byLess(stand)...)
		noLevel(t, e, 0)
	}
}

// TestLookCutsToTheWidth turns each bit behind the width: none counts.
func TestLookCutsToTheWidth(t *testing.T) {
	for start := range uint64(100) {
		r := edges.Chance(start)
		c, l := r.Config()
		e := made(t, c, start, l, nil)
		x := edges.Samples()[r.Next(len(edges.Samples()))]
		for range 10 {
			n := r.Next(c.Width + 1)
			e.Put(api.Route{Prefix: edges.First(x, n), Hop: n})
		}
		hop, probed := e.Look(addr.Cut(x, c.Width))
		sees(t, "P2203: all bits", e, x, hop, probed...)
		for i := c.Width; i < 128; i++ {
			sees(t, "P2203: a bit behind the width turned", e, edges.Flip(x, i), hop, probed...)
		}
	}
}

// TestMoreThanTheConfigTells has more routes, and more next hops, than Routes and Hops: who else counts them refuses them, not an engine.
func TestMoreThanTheConfigTells(t *testing.T) {
	c := with(with(clear, routes, 0), hops, 0)
	c.Width, c.Stride, c.Levels, c.Bits = 16, 6, 3, 1<<18
	e := made(t, c, 7, []int{7, 13, 16}, nil)
	var want []api.Route
	for i := range 600 {
		r := api.Route{Prefix: api.Prefix{Addr: api.Addr{Hi: uint64(i*97%600) << 48}, Len: 16}, Hop: i}
		e.Put(r)
		want = append(want, r)
	}
	keeps(t, "P2202: many routes", e, 1, byLess(want)...)
	for _, r := range want {
		sees(t, "P2202: many routes", e, r.Prefix.Addr, r.Hop, 16)
	}
}

// plain is an engine by the chapter's own words: a list of routes, all keys worked out anew, and a filter a level.
type plain struct {
	c       api.Config
	bits    []int
	filters []*filter.Filter
	routes  []api.Route
}

func newPlain(c api.Config, seed uint64, l, counts []int) *plain {
	w := &plain{c: c, bits: l}
	for i, size := range plainSizes(c, l, counts) {
		f, _ := filter.New(mixer.Mix(seed+uint64(i)), c.Hashes, size)
		w.filters = append(w.filters, f)
	}
	return w
}

// keys are those of the i-th level.
func (w *plain) keys(i int) []api.Route {
	low := w.c.Direct
	if i > 0 {
		low = w.bits[i-1]
	}
	return cover.Set(w.routes, low, w.bits[i])
}

func (w *plain) turn(p api.Prefix, hop int) {
	var was [][]api.Route
	for i := range w.bits {
		was = append(was, w.keys(i))
	}
	w.routes = slices.DeleteFunc(w.routes, func(r api.Route) bool { return r.Prefix == p })
	if hop >= 0 {
		w.routes = byLess(append(w.routes, api.Route{Prefix: p, Hop: hop}))
	}
	for i, f := range w.filters {
		for _, c := range delta.Of(was[i], w.keys(i)) {
			switch {
			case c.Old < 0:
				f.Add(c.Key)
			case c.New < 0:
				f.Remove(c.Key)
			}
		}
	}
}

func (w *plain) put(r api.Route) {
	if addr.Right(r.Prefix) && r.Prefix.Len <= w.c.Width && r.Hop >= 0 {
		w.turn(r.Prefix, r.Hop)
	}
}

func (w *plain) remove(p api.Prefix) bool {
	there := slices.ContainsFunc(w.routes, func(r api.Route) bool { return r.Prefix == p })
	if there {
		w.turn(p, -1)
	}
	return there
}

func (w *plain) look(a api.Addr) (int, []int) {
	var probed []int
	for i := len(w.bits) - 1; i >= 0; i-- {
		key := edges.First(a, w.bits[i])
		if !w.filters[i].May(key) {
			continue
		}
		probed = append(probed, w.bits[i])
		for _, r := range w.keys(i) {
			if r.Prefix == key {
				return r.Hop, probed
			}
		}
	}
	return longest(w.routes, a, w.c.Direct), probed
}

// met is what a story came by: how many Looks had a hop, how many none, and how many levels were probed that had no key.
type met struct {
	hop, none, vain int
}

// story turns an engine and its plain form by numbers that follow from start, and tells what it came by, and whether both did alike all along.
func story(start uint64) (*engine.Engine, met, bool) {
	r := edges.Chance(start)
	c, l := r.Config()
	seed := []uint64{0, 7, 1 << 63, math.MaxUint64, start * 0x9E3779B97F4A7C15}[r.Next(5)]
	counts := make([]int, r.Next(140))
	for i := range counts {
		counts[i] = r.Next(12) - 2
	}
	e, err := engine.New(c, seed, l, counts)
	w := newPlain(c, seed, l, counts)
	x := edges.Samples()[r.Next(len(edges.Samples()))]
	near := func() api.Prefix { return r.Near(x, r.Next(c.Width+1)) }
	var m met
	for range 40 {
		p := near()
		if r.Next(3) == 0 {
			if e.Delete(p) != w.remove(p) {
				return e, m, false
			}
		} else {
			one := api.Route{Prefix: p, Hop: r.Next(9) - 1}
			e.Put(one)
			w.put(one)
		}
		for range 4 {
			a := near().Addr
			hop, probed := e.Look(a)
			plainHop, plainProbed := w.look(a)
			if hop != plainHop || !slices.Equal(probed, plainProbed) || hop != longest(w.routes, a, 128) {
				return e, m, false
			}
			m.count(hop, probed, c.Direct, w.routes, a)
		}
	}
	return e, m, err == api.OK && w.alike(e)
}

// count adds a Look of a to what was met.
func (m *met) count(hop int, probed []int, low int, l []api.Route, a api.Addr) {
	m.vain += len(probed)
	if hop < 0 {
		m.none++
		return
	}
	m.hop++
	if longest(l, a, low) != hop {
		m.vain--
	}
}

// alike tells whether e has the routes, the levels, the keys and the filters of w.
func (w *plain) alike(e *engine.Engine) bool {
	same := slices.Equal(e.Routes(), w.routes) && slices.Equal(e.Levels(), w.bits)
	for i, f := range w.filters {
		keys, size := e.Level(i)
		same = same && slices.Equal(keys, w.keys(i)) && size == f.Len()
	}
	return same
}

func TestAgainstAPlainForm(t *testing.T) {
	var all met
	for start := range uint64(400) {
		_, m, ok := story(start)
		if !ok {
			t.Errorf("P2202: start %d: it does otherwise than a plain one", start)
		}
		all.hop += m.hop
		all.none += m.none
		all.vain += m.vain
	}
	if all.hop < 1000 || all.none < 1000 || all.vain < 1000 {
		t.Errorf("P2202: what was asked for had %d hops, %d none, and %d levels were probed in vain", all.hop, all.none, all.vain)
	}
}

// TestTheKeysAtEachStep has routes come and go, and always each level's keys be what they make there.
func TestTheKeysAtEachStep(t *testing.T) {
	for start := range uint64(150) {
		r := edges.Chance(start)
		c, l := r.Config()
		e := made(t, c, start, l, nil)
		x := edges.Samples()[r.Next(len(edges.Samples()))]
		stand := map[api.Prefix]int{}
		for range 40 {
			p, hop := r.Near(x, r.Next(c.Width+1)), r.Next(5)
			if p.Len > c.Width {
				continue
			}
			if _, there := stand[p]; r.Next(3) == 0 {
				if e.Delete(p) != there {
					t.Fatalf("P2202: Delete of %v is not %v", p, there)
				}
				delete(stand, p)
			} else {
				e.Put(api.Route{Prefix: p, Hop: hop})
				stand[p] = hop
			}
			var want []api.Route
			for q, n := range stand {
				want = append(want, api.Route{Prefix: q, Hop: n})
			}
			keeps(t, "P2202: routes come and go", e, c.Direct, byLess(want)...)
		}
	}
}

// TestNilOnes has a nil one, and the zero value, of which the chapter does not speak: neither takes a route.
func TestNilOnes(t *testing.T) {
	for name, e := range map[string]*engine.Engine{"a nil one": nil, "the zero value": {}} {
		for _, n := range append(edges.Wild(), edges.Lengths()...) {
			for _, a := range edges.Samples() {
				e.Put(api.Route{})
				e.Put(api.Route{Prefix: edges.First(a, n), Hop: 4})
				if e.Delete(edges.First(a, n)) || e.Delete(api.Prefix{}) {
					t.Fatalf("P2203: %s: Delete is true", name)
				}
				sees(t, "P2203: "+name, e, a, -1)
				keys, size := e.Level(n)
				if len(keys) != 0 || size != 0 || len(e.Routes()) != 0 || len(e.Levels()) != 0 {
					t.Fatalf("P2203: %s: Level %v, %d, Routes %v, Levels %v", name, keys, size, e.Routes(), e.Levels())
				}
			}
		}
		noLevel(t, e, 0)
	}
}

func TestTwoHaveNothingInCommon(t *testing.T) {
	one, two := made(t, tight, 7, pair, nil), made(t, tight, 7, pair, nil)
	one.Put(edges.Route("", 1))
	one.Put(edges.Route("11", 2))
	one.Put(edges.Route("101", 3))
	keeps(t, "P2203: the other of two", two, 1)
	sees(t, "P2203: the other of two", two, at("1010"), -1)
	two.Put(edges.Route("1", 4))
	two.Put(edges.Route("101", 5))
	sees(t, "P2203: one of two", one, at("1010"), 3, 4)
	sees(t, "P2203: one of two", one, at("1000"), 1, 4, 2)
	one.Delete(edges.Read("101"))
	one.Delete(edges.Read("11"))
	one.Delete(edges.Read(""))
	keeps(t, "P2203: one of two", one, 1)
	sees(t, "P2203: one of two", one, at("1010"), -1)
	keeps(t, "P2203: the other of two", two, 1, edges.Route("1", 4), edges.Route("101", 5))
	sees(t, "P2203: the other of two", two, at("1010"), 5, 4)
	sees(t, "P2203: the other of two", two, at("1111"), 4, 4)
	keeps(t, "P2203: a third one", made(t, tight, 7, pair, nil), 1)
}

// TestWhatIsHandedInStays has lists with room to spare, and turns them all afterwards, which must turn no engine.
func TestWhatIsHandedInStays(t *testing.T) {
	l, counts := []int{2, 4, 9, 9}, []int{0, 0, 1, 0, 3, 9, 9}
	c := with(with(tight, bits, 100), least, 10)
	e := made(t, c, 7, l[:2], counts[:5])
	if !slices.Equal(l, []int{2, 4, 9, 9}) || !slices.Equal(counts, []int{0, 0, 1, 0, 3, 9, 9}) {
		t.Fatalf("P2203: New turned what it was handed to %v, %v", l, counts)
	}
	edges.Fill(l, 1)
	edges.Fill(counts, 1000)
	e.Put(edges.Route("101", 3))
	e.Put(edges.Route("11", 4))
	keeps(t, "P2203: behind lists that were turned", e, 1, edges.Route("101", 3), edges.Route("11", 4))
	_, first := e.Level(0)
	_, last := e.Level(1)
	if !slices.Equal(e.Levels(), pair) || first != 30 || last != 70 {
		t.Fatalf("P2203: behind lists that were turned: Levels %v, of %d and %d bits", e.Levels(), first, last)
	}
}

// TestAnswersAreNewMemory turns all lists that an engine answers, their spare room too: no other, and not the engine, turns with them.
func TestAnswersAreNewMemory(t *testing.T) {
	e := made(t, tight, 7, pair, nil)
	var want []api.Route
	for i := range 16 {
		routes, again := e.Routes(), e.Routes()
		edges.Fill(routes, api.Route{Hop: math.MaxInt})
		l, levels := e.Levels(), e.Levels()
		edges.Fill(l, 3)
		keys, _ := e.Level(1)
		sameKeys, _ := e.Level(1)
		edges.Fill(keys, api.Route{Hop: math.MaxInt})
		_, probed := e.Look(api.Addr{Hi: math.MaxUint64})
		hop, sameProbed := e.Look(api.Addr{Hi: math.MaxUint64})
		wasProbed := slices.Clone(sameProbed)
		edges.Fill(probed, 3)
		keeps(t, "P2203: behind lists that were turned", e, 1, want...)
		sees(t, "P2203: behind lists that were turned", e, api.Addr{Hi: math.MaxUint64}, hop, wasProbed...)
		r := api.Route{Prefix: api.Prefix{Addr: api.Addr{Hi: uint64(i*5%16) << 60}, Len: 4}, Hop: i}
		e.Put(r)
		if !slices.Equal(again, want) || !slices.Equal(levels, pair) || !slices.Equal(sameKeys, cover.Set(want, 2, 4)) || !slices.Equal(sameProbed, wasProbed) {
			t.Fatalf("P2203: lists turned by another, or by their engine: %v, %v, %v, %v", again, levels, sameKeys, sameProbed)
		}
		want = byLess(append(slices.Clone(want), r))
	}
}

// answers is what an engine answers of addresses beside all of its routes.
func answers(e *engine.Engine) []int {
	var out []int
	for _, r := range e.Routes() {
		for _, i := range []int{r.Prefix.Len - 1, r.Prefix.Len, 127} {
			hop, probed := e.Look(edges.Flip(r.Prefix.Addr, max(0, min(i, 127))))
			out = append(append(out, hop), probed...)
		}
	}
	for i := range e.Levels() {
		keys, size := e.Level(i)
		for _, r := range keys {
			out = append(out, int(r.Prefix.Addr.Hi), int(r.Prefix.Addr.Lo), r.Prefix.Len, r.Hop)
		}
		out = append(out, size)
	}
	return out
}

func TestAskingTurnsNothing(t *testing.T) {
	for start := range uint64(40) {
		e, _, _ := story(start)
		routes, levels, first := e.Routes(), e.Levels(), answers(e)
		for range 2 {
			if !slices.Equal(answers(e), first) || !slices.Equal(e.Routes(), routes) || !slices.Equal(e.Levels(), levels) {
				t.Fatalf("P2203: asked again, it answers otherwise (start %d)", start)
			}
		}
	}
}

// TestManyAtOnce has many turn engines of their own, and ask another together.
func TestManyAtOnce(t *testing.T) {
	shared, want, _ := story(9)
	first := answers(shared)
	again := make([]met, 8)
	own := make([][]int, len(again))
	others := make([][]int, len(again))
	var wait sync.WaitGroup
	for i := range again {
		wait.Go(func() {
			var e *engine.Engine
			e, again[i], _ = story(9)
			own[i], others[i] = answers(e), answers(shared)
		})
	}
	wait.Wait()
	for i := range again {
		if len(first) == 0 || again[i] != want || !slices.Equal(own[i], first) || !slices.Equal(others[i], first) {
			t.Fatal("P2203: the same was told, another was answered")
		}
	}
}
