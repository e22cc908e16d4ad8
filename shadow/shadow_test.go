package shadow_test

import (
	"math"
	"slices"
	"sync"
	"testing"

	"flocculus/addr"
	"flocculus/api"
	"flocculus/cover"
	"flocculus/edges"
	"flocculus/engine"
	"flocculus/histo"
	"flocculus/levels"
	"flocculus/shadow"
)

// good is a config that there can be; tight is one of 4 bits whose filters have one bit, which is on if any key is there.
var (
	good  = api.Config{Width: 32, Direct: 8, Levels: 6, Stride: 6, Hashes: 3, Bits: 1000, Least: 10, Buckets: 4, Routes: 300, Hops: 60}
	tight = api.Config{Width: 4, Direct: 1, Levels: 2, Stride: 3, Hashes: 1, Bits: 2, Least: 1, Buckets: 1, Routes: 20, Hops: 20}
)

// begun begins one that there can be.
func begun(t *testing.T, c api.Config, seed uint64, l []api.Route, slice int) *shadow.Shadow {
	t.Helper()
	s, err := shadow.Start(c, seed, l, slice)
	if s == nil || err != api.OK {
		t.Fatalf("P2301: Start of %+v by %d: nil is %v, error %d", c, slice, s == nil, err)
	}
	return s
}

// steps fails the test where a Step leaves another number, or there is an engine while some wait, or none if none waits.
func steps(t *testing.T, what string, s *shadow.Shadow, left ...int) {
	t.Helper()
	for i, want := range left {
		if got := s.Step(); got != want {
			t.Fatalf("%s: Step %d leaves %d, want %d", what, i, got, want)
		}
		stands(t, what, s, want == 0)
	}
}

func stands(t *testing.T, what string, s *shadow.Shadow, want bool) {
	t.Helper()
	if (s.Engine() != nil) != want {
		t.Fatalf("%s: that there is an engine is not %v", what, want)
	}
}

// has fails the test where e has other routes.
func has(t *testing.T, what string, e *engine.Engine, want ...api.Route) {
	t.Helper()
	if got := e.Routes(); !slices.Equal(got, want) {
		t.Fatalf("%s: the routes are %v, want %v", what, got, want)
	}
}

// held is all that can be told of an engine beside its Looks.
type held struct {
	routes []api.Route
	levels []int
	keys   [][]api.Route
	sizes  []int
}

func all(e *engine.Engine) held {
	h := held{routes: e.Routes(), levels: e.Levels()}
	for i := range h.levels {
		keys, size := e.Level(i)
		h.keys, h.sizes = append(h.keys, keys), append(h.sizes, size)
	}
	return h
}

// alike tells whether two engines are the same, and answer the same beside each of their routes.
func alike(a, b *engine.Engine) bool {
	if a == nil || b == nil {
		return a == b
	}
	x, y := all(a), all(b)
	same := slices.Equal(x.routes, y.routes) && slices.Equal(x.levels, y.levels) && slices.Equal(x.sizes, y.sizes)
	for i := range min(len(x.keys), len(y.keys)) {
		same = same && slices.Equal(x.keys[i], y.keys[i])
	}
	for _, r := range x.routes {
		for _, i := range []int{0, r.Prefix.Len - 1, r.Prefix.Len, 127} {
			where := edges.Flip(r.Prefix.Addr, max(0, min(i, 127)))
			hop, probed := a.Look(where)
			hopToo, probedToo := b.Look(where)
			same = same && hop == hopToo && slices.Equal(probed, probedToo)
		}
	}
	return same
}

func TestByHand(t *testing.T) {
	l := []api.Route{edges.Route("101", 3), edges.Route("1", 1), edges.Route("0110", 4), edges.Route("", 2), edges.Route("01", 5)}
	s := begun(t, tight, 7, l, 2)
	stands(t, "P2301: five wait", s, false)
	steps(t, "P2301: five by two", s, 3, 1, 0, 0)
	e := s.Engine()
	has(t, "P2301: five came", e, edges.Route("", 2), edges.Route("01", 5), edges.Route("0110", 4), edges.Route("1", 1), edges.Route("101", 3))
	if hop, probed := e.Look(edges.Read("1010").Addr); hop != 3 || !slices.Equal(probed, []int{4}) {
		t.Fatalf("P2301: Look is %d, %v", hop, probed)
	}
	s.Put(edges.Route("11", 6))
	stands(t, "P2301: one waits", s, false)
	s.Delete(edges.Read("101"))
	s.Put(edges.Route("", 8))
	stands(t, "P2301: three wait", s, false)
	has(t, "P2301: three wait", e, edges.Route("", 2), edges.Route("01", 5), edges.Route("0110", 4), edges.Route("1", 1), edges.Route("101", 3))
	steps(t, "P2301: three by two", s, 1)
	has(t, "P2301: two came", e, edges.Route("", 2), edges.Route("01", 5), edges.Route("0110", 4), edges.Route("1", 1), edges.Route("11", 6))
	steps(t, "P2301: three by two", s, 0, 0, 0)
	has(t, "P2301: three came", e, edges.Route("", 8), edges.Route("01", 5), edges.Route("0110", 4), edges.Route("1", 1), edges.Route("11", 6))
	if s.Engine() != e {
		t.Fatal("P2301: another engine")
	}
}

// TestOneThatBeginsWithNothing stands at once, and any number of Steps leave it so.
func TestOneThatBeginsWithNothing(t *testing.T) {
	for _, slice := range []int{1, 2, 100, math.MaxInt} {
		for _, l := range [][]api.Route{nil, {}, make([]api.Route, 0, 3)} {
			s := begun(t, good, 7, l, slice)
			stands(t, "P2301: it begins with nothing", s, true)
			steps(t, "P2301: it begins with nothing", s, 0, 0, 0)
			has(t, "P2301: it begins with nothing", s.Engine())
			if hop, probed := s.Engine().Look(api.Addr{}); hop != -1 || len(probed) != 0 {
				t.Fatalf("P2301: Look in one of nothing: %d, %v", hop, probed)
			}
		}
	}
}

// TestTheOrderOfThoseThatWait follows an engine that stood, while what waits comes to it one by one.
func TestTheOrderOfThoseThatWait(t *testing.T) {
	s := begun(t, tight, 7, nil, 1)
	e := s.Engine()
	s.Put(edges.Route("1", 1))
	s.Put(edges.Route("0", 2))
	s.Delete(edges.Read("1"))
	s.Put(edges.Route("1", 3))
	s.Put(edges.Route("1", 4))
	s.Delete(edges.Read("0"))
	s.Delete(edges.Read("0"))
	for i, want := range [][]api.Route{
		{edges.Route("1", 1)},
		{edges.Route("0", 2), edges.Route("1", 1)},
		{edges.Route("0", 2)},
		{edges.Route("0", 2), edges.Route("1", 3)},
		{edges.Route("0", 2), edges.Route("1", 4)},
		{edges.Route("1", 4)},
		{edges.Route("1", 4)},
	} {
		steps(t, "P2301: one by one", s, 6-i)
		has(t, "P2301: one by one", e, want...)
	}
}

// TestUpdatesWaitBehindTheRoutes has updates of prefixes that routes wait for: the updates are the last word.
func TestUpdatesWaitBehindTheRoutes(t *testing.T) {
	for slice := 1; slice <= 8; slice++ {
		for ahead := range 4 {
			s := begun(t, tight, 7, []api.Route{edges.Route("11", 3), edges.Route("", 1), edges.Route("0", 2)}, slice)
			for range ahead {
				s.Step()
			}
			s.Put(edges.Route("0", 9))
			s.Delete(edges.Read("11"))
			for range 5 {
				s.Step()
			}
			stands(t, "P2301: updates behind routes", s, true)
			has(t, "P2301: updates behind routes", s.Engine(), edges.Route("", 1), edges.Route("0", 9))
		}
	}
}

// TestRoutesInEveryOrder has the same routes be handed in in every order: the same stands behind them.
func TestRoutesInEveryOrder(t *testing.T) {
	l := []api.Route{edges.Route("", 1), edges.Route("0", 2), edges.Route("01", 3), edges.Route("0110", 4), edges.Route("1", 5), edges.Route("101", 6)}
	edges.Each(l, func(in []api.Route) {
		s := begun(t, tight, 7, in, 2)
		steps(t, "P2301: in any order", s, 4, 2, 0)
		has(t, "P2301: in any order", s.Engine(), l...)
	})
}

// TestTheLastOneOfAPrefixCounts has several routes of one prefix: one of them waits, also where an engine doesn't take it.
func TestTheLastOneOfAPrefixCounts(t *testing.T) {
	l := []api.Route{edges.Route("1", 1), edges.Route("0", 5), edges.Route("1", 2), edges.Route("1", -1), edges.Route("0", 6), edges.Route("1", 3)}
	s := begun(t, tight, 7, l, 1)
	steps(t, "P2301: several of one prefix", s, 1, 0)
	has(t, "P2301: several of one prefix", s.Engine(), edges.Route("0", 6), edges.Route("1", 3))
	s = begun(t, tight, 7, append(l, edges.Route("1", -1)), 1)
	steps(t, "P2301: the last one can't be", s, 1, 0)
	has(t, "P2301: the last one can't be", s.Engine(), edges.Route("0", 6))
}

// TestUpdatesAreNotSorted has several updates of one prefix: each waits.
func TestUpdatesAreNotSorted(t *testing.T) {
	s := begun(t, tight, 7, []api.Route{edges.Route("1", 1)}, 3)
	for hop := range 5 {
		s.Put(edges.Route("1", hop))
		s.Put(edges.Route("0", hop))
	}
	steps(t, "P2301: several of one prefix", s, 8, 5, 2, 0)
	has(t, "P2301: several of one prefix", s.Engine(), edges.Route("0", 4), edges.Route("1", 4))
}

// TestWhatAnEngineDoesNotTake has prefixes and hops that there can't be: they wait as others do, and turn nothing.
func TestWhatAnEngineDoesNotTake(t *testing.T) {
	stand := []api.Route{edges.Route("", 1), edges.Route("10", 2)}
	none := append(edges.Wrong(), edges.Read("10101"), edges.Read("00000"), edges.First(api.Addr{}, 128))
	var bad []api.Route
	for _, p := range none {
		bad = append(bad, api.Route{Prefix: p, Hop: 3})
	}
	for _, hop := range []int{-1, -2, math.MinInt} {
		bad = append(bad, edges.Route("10", hop), edges.Route("", hop), edges.Route("0", hop))
	}
	s := begun(t, tight, 7, stand, 5)
	for _, r := range bad {
		s.Put(r)
	}
	for _, p := range none {
		s.Delete(p)
	}
	for left := len(stand) + len(bad) + len(none) - 5; left > -5; left -= 5 {
		steps(t, "P2301: what there can't be", s, max(0, left))
	}
	has(t, "P2301: what there can't be", s.Engine(), stand...)
	s = begun(t, tight, 7, append(slices.Clone(stand), bad[:len(none)]...), 1)
	for left := len(stand) + len(none) - 1; left >= 0; left-- {
		steps(t, "P2301: what there can't be waits at first, too", s, left)
	}
	has(t, "P2301: what there can't be waits at first, too", s.Engine(), stand...)
}

func TestHowManySteps(t *testing.T) {
	for first := range 9 {
		for more := range 9 {
			for slice := 1; slice <= 20; slice++ {
				var l []api.Route
				for i := range first {
					l = append(l, api.Route{Prefix: edges.First(api.Addr{Hi: uint64(i) << 60}, 4), Hop: i})
				}
				s := begun(t, tight, 7, l, slice)
				for i := range more {
					s.Put(edges.Route("1", i))
				}
				n := 0
				for ; s.Engine() == nil && n < 100; n++ {
					s.Step()
				}
				if want := (first + more + slice - 1) / slice; n != want {
					t.Fatalf("P2302: %d routes and %d updates by %d stand behind %d Steps, want %d", first, more, slice, n, want)
				}
			}
		}
	}
}

// TestManyUpdates has an update of each number, and a Step behind every fourth: where the prefix leads then tells how many came.
func TestManyUpdates(t *testing.T) {
	for _, slice := range []int{1, 2, 3, 4, 5, 7, 50, 1 << 40, math.MaxInt} {
		s := begun(t, tight, 7, nil, slice)
		e := s.Engine()
		waits := 0
		for i := range 400 {
			s.Put(edges.Route("1", i))
			waits++
			if i%4 == 3 {
				waits = max(0, waits-slice)
				steps(t, "P2301: updates beside Steps", s, waits)
				has(t, "P2301: updates beside Steps", e, edges.Route("1", i-waits))
			}
		}
		for waits > 0 {
			waits = max(0, waits-slice)
			steps(t, "P2301: Steps behind updates", s, waits)
			has(t, "P2301: Steps behind updates", e, edges.Route("1", 399-waits))
		}
	}
}

// plainCounts are the routes of each length, each prefix counted once.
func plainCounts(l []api.Route) []int {
	seen := map[api.Prefix]int{}
	counts := make([]int, 129)
	for _, r := range l {
		seen[r.Prefix]++
		if seen[r.Prefix] == 1 && r.Prefix.Len >= 0 && r.Prefix.Len <= 128 {
			counts[r.Prefix.Len]++
		}
	}
	return counts
}

// TestTheCheapestLevels has routes of a length each: that is where the levels are, as far as they reach.
func TestTheCheapestLevels(t *testing.T) {
	ask := func(what string, c api.Config, l []api.Route, want ...int) {
		t.Helper()
		s := begun(t, c, 7, l, len(l)+1)
		s.Step()
		if got := s.Engine().Levels(); !slices.Equal(got, want) {
			t.Fatalf("P2301: %s: the levels are %v, want %v", what, got, want)
		}
	}
	route := func(n, i int) api.Route {
		return api.Route{Prefix: edges.First(api.Addr{Hi: uint64(i) << 48}, n), Hop: i}
	}
	ask("no routes", good, nil, 14, 20, 26, 32)
	ask("one of 9 bits", good, []api.Route{route(9, 0)}, 9, 14, 20, 26, 32)
	ask("of 10, 15 and 23 bits", good, []api.Route{route(10, 0), route(15, 0), route(23, 0)}, 10, 15, 17, 23, 26, 32)
	c := good
	c.Levels = 5
	ask("of 10, 15 and 23 bits, with a level less", c, []api.Route{route(10, 0), route(15, 0), route(23, 0)}, 11, 17, 23, 26, 32)
	ask("of the direct array", good, []api.Route{route(0, 0), route(3, 0), route(8, 0)}, 14, 20, 26, 32)
	ask("longer than the width", good, []api.Route{route(33, 0), route(40, 0), route(128, 0)}, 14, 20, 26, 32)
	c.Width, c.Direct, c.Levels, c.Stride = 4, 0, 2, 3
	four := []api.Route{route(3, 0), route(3, 1<<13), route(3, 2<<13), route(3, 3<<13)}
	ask("four prefixes beside one", c, append(slices.Clone(four), route(1, 0)), 3, 4)
	ask("four prefixes beside one that comes three times", c, append(slices.Clone(four), route(1, 0), route(1, 0), route(1, 1)), 3, 4)
	ask("four prefixes beside two", c, append(slices.Clone(four), route(1, 0), route(1, 1<<15)), 1, 4)
	ask("one that comes four times beside one", c, []api.Route{route(3, 0), route(3, 1), route(1, 0), route(3, 2), route(3, 3)}, 1, 4)
	ask("hops below 0 are counted, too", c, []api.Route{{Prefix: edges.Read("101"), Hop: -1}}, 3, 4)
	ask("bits behind the length are counted, too", c, []api.Route{{Prefix: api.Prefix{Addr: api.Addr{Lo: 1}, Len: 3}}}, 3, 4)
	c.Direct = 4
	ask("all in the direct array", c, []api.Route{route(4, 0), route(1, 0)})
}

// TestTheFiltersBits has them shared out by the routes that Start was handed, not by those that come later.
func TestTheFiltersBits(t *testing.T) {
	c := api.Config{Width: 4, Levels: 2, Stride: 2, Hashes: 1, Bits: 100, Least: 10, Buckets: 1}
	l := []api.Route{edges.Route("11", 1), edges.Route("001", 2), edges.Route("0010", 3), edges.Route("11", 4), {Prefix: edges.Read("10"), Hop: -1}}
	s := begun(t, c, 7, l, 9)
	for i := range 9 {
		s.Put(api.Route{Prefix: edges.First(api.Addr{Hi: uint64(i) << 60}, 4), Hop: i})
	}
	steps(t, "P2301: the filters' bits", s, 4, 0)
	_, first := s.Engine().Level(0)
	_, last := s.Engine().Level(1)
	if first != 10+32 || last != 10+48 {
		t.Fatalf("P2301: the filters have %d and %d bits, want 42 and 58", first, last)
	}
}

// TestAnySeed has the same as an engine of that seed, and another than one of another seed.
func TestAnySeed(t *testing.T) {
	c := good
	c.Bits, c.Least, c.Hashes = 60, 10, 1
	l := edges.Chain(edges.Samples()[4])[:33]
	counts := histo.Count(l)
	own, _ := levels.Choose(c.Width, c.Direct, c.Levels, c.Stride, counts)
	differ := 0
	for _, seed := range []uint64{0, 1, 7, 8, 1 << 31, 1 << 32, 1 << 63, math.MaxUint64} {
		s := begun(t, c, seed, l, 10)
		steps(t, "P2301: any seed", s, 23, 13, 3, 0)
		e, _ := engine.New(c, seed, own, counts)
		other, _ := engine.New(c, seed+1, own, counts)
		for _, r := range l {
			e.Put(r)
			other.Put(r)
		}
		if !alike(s.Engine(), e) {
			t.Fatalf("P2301: it is not the engine of the seed %d", seed)
		}
		for i := range 128 {
			_, one := e.Look(edges.Flip(api.Addr{}, i))
			_, two := other.Look(edges.Flip(api.Addr{}, i))
			_, got := s.Engine().Look(edges.Flip(api.Addr{}, i))
			if !slices.Equal(got, one) {
				t.Fatalf("P2301: Look in the engine of the seed %d probes %v, want %v", seed, got, one)
			}
			if !slices.Equal(one, two) {
				differ++
			}
		}
	}
	if differ == 0 {
		t.Error("P2301: no seed turned what is probed")
	}
}

// numbers are those of a config, one after the other.
func numbers(c *api.Config) []*int {
	return []*int{&c.Width, &c.Direct, &c.Levels, &c.Stride, &c.Hashes, &c.Bits, &c.Least, &c.Buckets, &c.Routes, &c.Hops}
}

func refused(t *testing.T, what string, c api.Config, l []api.Route, slice int) {
	t.Helper()
	if s, err := shadow.Start(c, 7, l, slice); s != nil || err != api.ErrArg {
		t.Fatalf("%s: Start of %+v by %d: nil is %v, error %d, want nil and %d", what, c, slice, s == nil, err, api.ErrArg)
	}
}

func TestRefused(t *testing.T) {
	some := []api.Route{edges.Route("101", 3)}
	for _, l := range [][]api.Route{nil, some, edges.Chain(api.Addr{})} {
		for _, slice := range []int{0, -1, -2, -256, math.MinInt32, math.MinInt, math.MinInt + 1, -1 << 32} {
			refused(t, "P2301: a slice below 1", good, l, slice)
			refused(t, "P2301: neither can be", api.Config{}, l, slice)
		}
		for _, slice := range []int{1, 2, 100, math.MaxInt} {
			begun(t, good, 7, l, slice)
			refused(t, "P2301: no config", api.Config{}, l, slice)
		}
		over := []int{129, 33, 129, 7, 17, 1<<30 + 1, api.MaxBits + 1, 1001, 301, 61}
		for i, n := range over {
			for _, m := range []int{n, -1, math.MinInt, math.MaxInt} {
				c := good
				*numbers(&c)[i] = m
				refused(t, "P2301: a number that can't be", c, l, 5)
				refused(t, "P2301: a number that can't be", c, l, 0)
			}
		}
		for _, at := range []int{0, 3, 4, 5, 6, 7} {
			c := good
			*numbers(&c)[at] = 0
			refused(t, "P2301: none of it", c, l, 5)
		}
		c := good
		c.Levels = 3
		refused(t, "P2301: no levels reach so far", c, l, 5)
		c.Levels, c.Bits = 6, 59
		refused(t, "P2301: not enough bits", c, l, 5)
		c.Bits = 60
		begun(t, c, 7, l, 5)
	}
}

// TestEveryConfigThatIsRight is begun: there are levels for it.
func TestEveryConfigThatIsRight(t *testing.T) {
	c := api.Config{Hashes: 1, Bits: 1 << 20, Least: 1, Buckets: 1}
	for c.Width = 0; c.Width <= 9; c.Width++ {
		for c.Direct = -1; c.Direct <= 9; c.Direct++ {
			for c.Levels = -1; c.Levels <= 10; c.Levels++ {
				for c.Stride = 0; c.Stride <= 7; c.Stride++ {
					if !engine.Right(c) {
						refused(t, "P2301: a config that is not right", c, nil, 5)
					} else {
						stands(t, "P2301: a config that is right", begun(t, c, 7, nil, 5), true)
					}
				}
			}
		}
	}
}

// plain is one by the chapter's own words: an engine, and a list of what is still to be done to it.
type plain struct {
	e     *engine.Engine
	todo  []func()
	slice int
}

func newPlain(c api.Config, seed uint64, l []api.Route, slice int) *plain {
	counts := plainCounts(l)
	own, _ := levels.Choose(c.Width, c.Direct, c.Levels, c.Stride, counts)
	e, _ := engine.New(c, seed, own, counts)
	p := &plain{e: e, slice: slice}
	last := map[api.Prefix]int{}
	var order []api.Prefix
	for _, r := range l {
		if _, there := last[r.Prefix]; !there {
			order = append(order, r.Prefix)
		}
		last[r.Prefix] = r.Hop
	}
	slices.SortFunc(order, func(a, b api.Prefix) int {
		if addr.Less(a, b) {
			return -1
		}
		return 1
	})
	for _, x := range order {
		p.put(api.Route{Prefix: x, Hop: last[x]})
	}
	return p
}

func (p *plain) put(r api.Route) {
	p.todo = append(p.todo, func() { p.e.Put(r) })
}

func (p *plain) remove(x api.Prefix) {
	p.todo = append(p.todo, func() { p.e.Delete(x) })
}

func (p *plain) step() int {
	for range p.slice {
		if len(p.todo) == 0 {
			break
		}
		p.todo[0]()
		p.todo = p.todo[1:]
	}
	return len(p.todo)
}

// met is what a story came by: how often an engine stood, how often none did, and how many keys there were at the end.
type met struct {
	stood, waited, keys int
}

// story turns a shadow and its plain form by numbers that follow from start, and tells what it came by, and whether both did alike all along.
func story(start uint64) (*shadow.Shadow, met, bool) {
	r := edges.Chance(start)
	c, _ := r.Config()
	seed := []uint64{0, 7, 1 << 63, math.MaxUint64, start * 0x9E3779B97F4A7C15}[r.Next(5)]
	slice := []int{1, 1 + r.Next(4), 1 + r.Next(30), math.MaxInt}[r.Next(4)]
	x := edges.Samples()[r.Next(len(edges.Samples()))]
	route := func() api.Route {
		return api.Route{Prefix: r.Near(x, r.Next(c.Width+1)), Hop: r.Next(9) - 1}
	}
	var l []api.Route
	for range r.Next(25) {
		l = append(l, route())
	}
	s, err := shadow.Start(c, seed, l, slice)
	w := newPlain(c, seed, l, slice)
	var m met
	same := err == api.OK
	for range 40 {
		switch one := route(); r.Next(4) {
		case 0:
			s.Put(one)
			w.put(one)
		case 1:
			s.Delete(one.Prefix)
			w.remove(one.Prefix)
		default:
			same = same && s.Step() == w.step()
		}
		if len(w.todo) > 0 {
			m.waited++
			same = same && s.Engine() == nil
		} else {
			m.stood++
			same = same && alike(s.Engine(), w.e)
		}
	}
	for range w.todo {
		same = same && s.Step() == w.step()
	}
	for _, l := range all(w.e).keys {
		m.keys += len(l)
	}
	return s, m, same && alike(s.Engine(), w.e)
}

func TestAgainstAPlainForm(t *testing.T) {
	var sum met
	for start := range uint64(400) {
		_, m, ok := story(start)
		if !ok {
			t.Errorf("P2301: start %d: it does otherwise than a plain one", start)
		}
		sum.stood += m.stood
		sum.waited += m.waited
		sum.keys += m.keys
	}
	if sum.stood < 1000 || sum.waited < 1000 || sum.keys < 1000 {
		t.Errorf("P2301: it stood %d times, waited %d times, and had %d keys", sum.stood, sum.waited, sum.keys)
	}
}

// TestTheKeysAreTheRoutes has each level's keys be what the routes make there, however they came.
func TestTheKeysAreTheRoutes(t *testing.T) {
	for start := range uint64(100) {
		s, _, _ := story(start)
		e := s.Engine()
		r := edges.Chance(start)
		c, _ := r.Config()
		low := c.Direct
		for i, n := range e.Levels() {
			if keys, _ := e.Level(i); !slices.Equal(keys, cover.Set(e.Routes(), low, n)) {
				t.Fatalf("P2301: level %d of start %d has %v", i, start, keys)
			}
			low = n
		}
	}
}

// TestNilOnes has a nil one, and the zero value, of which the chapter does not speak: neither builds anything.
func TestNilOnes(t *testing.T) {
	for name, s := range map[string]*shadow.Shadow{"a nil one": nil, "the zero value": {}} {
		for range 3 {
			s.Put(edges.Route("101", 3))
			s.Put(api.Route{})
			s.Delete(edges.Read("101"))
			s.Delete(api.Prefix{Len: math.MinInt})
			if n := s.Step(); n != 0 || s.Engine() != nil {
				t.Fatalf("P2302: %s: Step is %d, and that there is no engine is %v", name, n, s.Engine() == nil)
			}
		}
	}
}

func TestTwoHaveNothingInCommon(t *testing.T) {
	l := []api.Route{edges.Route("1", 1), edges.Route("101", 2)}
	one, two := begun(t, tight, 7, l, 1), begun(t, tight, 7, l, 1)
	steps(t, "P2302: one of two", one, 1, 0)
	stands(t, "P2302: the other of two", two, false)
	one.Put(edges.Route("11", 3))
	two.Delete(edges.Read("1"))
	steps(t, "P2302: the other of two", two, 2, 1, 0)
	stands(t, "P2302: one of two", one, false)
	has(t, "P2302: the other of two", two.Engine(), edges.Route("101", 2))
	steps(t, "P2302: one of two", one, 0)
	has(t, "P2302: one of two", one.Engine(), edges.Route("1", 1), edges.Route("101", 2), edges.Route("11", 3))
	has(t, "P2302: the other of two", two.Engine(), edges.Route("101", 2))
	has(t, "P2302: a third one", begun(t, tight, 7, nil, 1).Engine())
}

// TestWhatIsHandedInStays has a list with room to spare, and turns it afterwards, which must turn no shadow.
func TestWhatIsHandedInStays(t *testing.T) {
	want := []api.Route{edges.Route("1", 1), edges.Route("0", 2), edges.Route("101", 3), edges.Route("1", 4), edges.Route("0110", 9), edges.Route("0110", 9)}
	l := slices.Clone(want)
	s := begun(t, tight, 7, l[:4], 2)
	s.Put(edges.Route("01", 5))
	s.Delete(edges.Read("0"))
	if !slices.Equal(l, want) {
		t.Fatalf("P2302: it turned what it was handed to %v", l)
	}
	edges.Fill(l, edges.Route("0000", 77))
	steps(t, "P2302: behind a list that was turned", s, 3, 1, 0)
	has(t, "P2302: behind a list that was turned", s.Engine(), edges.Route("01", 5), edges.Route("1", 4), edges.Route("101", 3))
}

// TestAskingTurnsNothing asks for the engine at each step, or never: the same stands behind them.
func TestAskingTurnsNothing(t *testing.T) {
	l := edges.Chain(edges.Samples()[4])[:33]
	for slice := 1; slice <= 34; slice++ {
		one, two := begun(t, good, 7, l, slice), begun(t, good, 7, l, slice)
		for left := len(l); left > 0; {
			left = max(0, left-slice)
			for range 3 {
				one.Engine()
			}
			if n := two.Step(); n != left {
				t.Fatalf("P2302: Step by %d leaves %d, want %d", slice, n, left)
			}
			steps(t, "P2302: asked for the engine", one, left)
		}
		first := one.Engine()
		if !alike(first, two.Engine()) || one.Engine() != first {
			t.Fatal("P2302: asked again, it has another engine")
		}
	}
}

// TestManyAtOnce has many build shadows of their own, and ask another together.
func TestManyAtOnce(t *testing.T) {
	shared, want, _ := story(9)
	again := make([]met, 8)
	own := make([]*shadow.Shadow, len(again))
	others := make([]*engine.Engine, len(again))
	var wait sync.WaitGroup
	for i := range again {
		wait.Go(func() {
			own[i], again[i], _ = story(9)
			others[i] = shared.Engine()
		})
	}
	wait.Wait()
	for i := range again {
		if again[i] != want || !alike(own[i].Engine(), shared.Engine()) || others[i] != shared.Engine() {
			t.Fatal("P2302: the same was told, another was answered")
		}
	}
}
