package walk_test

import (
	"math"
	"slices"
	"sync"
	"testing"

	"flocculus/api"
	"flocculus/edges"
	"flocculus/walk"
)

const ones = math.MaxUint64

// ascending are prefixes by addr.Less: at the edges of both words and of the lengths, and some that are no prefixes, which are ordered all the same.
var ascending = []api.Prefix{
	{Len: math.MinInt},
	{Len: -1 << 32},
	{Len: -1},
	{},
	{Len: 1},
	{Len: 32},
	{Len: 64},
	{Len: 127},
	{Len: 128},
	{Len: 129},
	{Len: 1 << 32},
	{Len: math.MaxInt},
	{Addr: api.Addr{Lo: 1}},
	{Addr: api.Addr{Lo: 1}, Len: 128},
	{Addr: api.Addr{Lo: 2}, Len: 127},
	{Addr: api.Addr{Lo: math.MaxInt64}, Len: 128},
	{Addr: api.Addr{Lo: 1 << 63}, Len: 65},
	{Addr: api.Addr{Lo: ones}, Len: 128},
	{Addr: api.Addr{Hi: 1}, Len: 63},
	{Addr: api.Addr{Hi: 1}, Len: 64},
	{Addr: api.Addr{Hi: 1, Lo: 1}, Len: 128},
	{Addr: api.Addr{Hi: 2}, Len: 63},
	{Addr: api.Addr{Hi: 10 << 56}, Len: 8},
	{Addr: api.Addr{Hi: 10 << 56}, Len: 16},
	{Addr: api.Addr{Hi: 10<<56 | 1<<48}, Len: 16},
	{Addr: api.Addr{Hi: math.MaxInt64, Lo: ones}, Len: 128},
	{Addr: api.Addr{Hi: 1 << 63}, Len: 1},
	{Addr: api.Addr{Hi: 1 << 63}, Len: 2},
	{Addr: api.Addr{Hi: ones}, Len: 64},
	{Addr: api.Addr{Hi: ones, Lo: ones}, Len: -1},
	{Addr: api.Addr{Hi: ones, Lo: ones}, Len: 128},
	{Addr: api.Addr{Hi: ones, Lo: ones}, Len: math.MaxInt},
}

// hops are numbers that a route can lead to: any.
var hops = []int{0, 1, -1, 7, 300, math.MaxInt, math.MinInt}

// routes has each prefix lead to its place in l.
func routes(l []api.Prefix) []api.Route {
	var out []api.Route
	for i, p := range l {
		out = append(out, api.Route{Prefix: p, Hop: i})
	}
	return out
}

// below orders by the address as one number, then by the length.
func below(a, b api.Prefix) bool {
	if a.Addr.Hi != b.Addr.Hi {
		return a.Addr.Hi < b.Addr.Hi
	}
	if a.Addr.Lo != b.Addr.Lo {
		return a.Addr.Lo < b.Addr.Lo
	}
	return a.Len < b.Len
}

// plain is what Sorted is of l, made by putting one after the other at its place.
func plain(l []api.Route) []api.Route {
	var out []api.Route
	for _, r := range l {
		i := 0
		for i < len(out) && below(out[i].Prefix, r.Prefix) {
			i++
		}
		if i < len(out) && out[i].Prefix == r.Prefix {
			out[i] = r
		} else {
			out = slices.Insert(out, i, r)
		}
	}
	return out
}

// chance makes numbers that follow from itself.
type chance uint64

func (c *chance) next(n int) int {
	*c = *c*6364136223846793005 + 1442695040888963407
	return int(uint64(*c) >> 33 % uint64(n))
}

// some has n routes of at most most prefixes, to any hops.
func (c *chance) some(n, most int) []api.Route {
	var out []api.Route
	for range n {
		i := c.next(most)
		p := api.Prefix{Addr: api.Addr{Hi: uint64(i%7) << 61, Lo: uint64(i / 7)}, Len: i%5*40 - 10}
		out = append(out, api.Route{Prefix: p, Hop: c.next(1000) - 500})
	}
	return out
}

// sorted fails the test where Sorted of l is another list, or turns l.
func sorted(t *testing.T, what string, l, want []api.Route) {
	t.Helper()
	was := slices.Clone(l)
	if got := walk.Sorted(l); !slices.Equal(got, want) {
		t.Fatalf("%s: Sorted of %v is %v, want %v", what, was, got, want)
	}
	if !slices.Equal(l, was) {
		t.Fatalf("%s: Sorted turned %v into %v", what, was, l)
	}
}

// left fails the test where c has not n left.
func left(t *testing.T, what string, c *walk.Cursor, n int) {
	t.Helper()
	if got := c.Left(); got != n {
		t.Fatalf("%s: Left is %d, want %d", what, got, n)
	}
}

// next fails the test where the next n of c are others.
func next(t *testing.T, what string, c *walk.Cursor, n int, want []api.Route) {
	t.Helper()
	if got := c.Next(n); !slices.Equal(got, want) {
		t.Fatalf("%s: Next(%d) is %v, want %v", what, n, got, want)
	}
}

func TestSortedOfNone(t *testing.T) {
	sorted(t, "P1501: nil", nil, nil)
	sorted(t, "P1501: none", []api.Route{}, nil)
	sorted(t, "P1501: none, with room", make([]api.Route, 0, 4), nil)
}

func TestSortedOfOne(t *testing.T) {
	for _, p := range ascending {
		for _, hop := range hops {
			l := []api.Route{{Prefix: p, Hop: hop}}
			sorted(t, "P1501: one", l, l)
		}
	}
}

func TestSortedOfTwo(t *testing.T) {
	for i, p := range ascending {
		for _, q := range ascending[i+1:] {
			one, two := api.Route{Prefix: p, Hop: 2}, api.Route{Prefix: q, Hop: 1}
			want := []api.Route{one, two}
			sorted(t, "P1501: two in order", want, want)
			sorted(t, "P1501: two, the greater one ahead", []api.Route{two, one}, want)
		}
	}
}

// TestSortedByPrefix has all prefixes turned about in many ways.
func TestSortedByPrefix(t *testing.T) {
	want := routes(ascending)
	sorted(t, "P1501: in order", want, want)
	l := slices.Clone(want)
	slices.Reverse(l)
	sorted(t, "P1501: from the last on", l, want)
	for i := range want {
		sorted(t, "P1501: from the middle on", append(slices.Clone(want[i:]), want[:i]...), want)
	}
	c := chance(15)
	for range 200 {
		for i := range l {
			j := c.next(i + 1)
			l[i], l[j] = l[j], l[i]
		}
		sorted(t, "P1501: in any order", l, want)
	}
}

// TestTheLastOfOnePrefixCounts has few prefixes several times each, in every order.
func TestTheLastOfOnePrefixCounts(t *testing.T) {
	p, q, r := ascending[22], ascending[23], ascending[24]
	l := routes([]api.Prefix{p, p, p, q, q, r})
	orders := 0
	edges.Each(l, func(l []api.Route) {
		orders++
		sorted(t, "P1501: several of one prefix", l, plain(l))
	})
	if orders != 720 {
		t.Fatalf("%d orders of 6", orders)
	}
}

// TestTheLastHopCounts has every hop come last, be it the least, the greatest or none that a table takes.
func TestTheLastHopCounts(t *testing.T) {
	for _, p := range ascending {
		for _, hop := range hops {
			var l []api.Route
			for _, h := range append(slices.Clone(hops), hop) {
				l = append(l, api.Route{Prefix: p, Hop: h})
			}
			sorted(t, "P1501: one prefix alone", l, []api.Route{{Prefix: p, Hop: hop}})
		}
	}
}

// TestOneOfMany has one prefix so often that a sort which keeps few in order, and not many, would tell another one.
func TestOneOfMany(t *testing.T) {
	c := chance(3)
	for _, most := range []int{1, 2, 3, 10, 100, 1000} {
		for _, n := range []int{2, 11, 12, 13, 20, 21, 50, 51, 400, 3000} {
			l := c.some(n, most)
			sorted(t, "P1501: many of few prefixes", l, plain(l))
		}
	}
}

// TestAlikeIsNotTheSame has prefixes that only a bit behind the length, or the length alone, tells apart: each counts.
func TestAlikeIsNotTheSame(t *testing.T) {
	a := api.Addr{Hi: 10 << 56}
	want := []api.Route{
		{Prefix: api.Prefix{Addr: a, Len: 7}, Hop: 1},
		{Prefix: api.Prefix{Addr: a, Len: 8}, Hop: 1},
		{Prefix: api.Prefix{Addr: a, Len: 9}, Hop: 1},
		{Prefix: api.Prefix{Addr: api.Addr{Hi: a.Hi, Lo: 1}, Len: 8}, Hop: 1},
		{Prefix: api.Prefix{Addr: api.Addr{Hi: a.Hi | 1}, Len: 8}, Hop: 1},
	}
	edges.Each(want, func(l []api.Route) { sorted(t, "P1501: alike", l, want) })
}

func TestManyRoutes(t *testing.T) {
	const many = 1 << 16
	var l []api.Route
	for i := range many {
		// An odd factor turns the numbers about, and leaves none out.
		l = append(l, api.Route{Prefix: api.Prefix{Addr: api.Addr{Hi: uint64(i*40503%many) << 48}, Len: 16}, Hop: i})
	}
	c := walk.Start(append(l, l...))
	for i := range many {
		got := c.Next(1)
		if len(got) != 1 || got[0].Prefix.Addr.Hi != uint64(i)<<48 || got[0].Hop*40503%many != i || c.Left() != many-i-1 {
			t.Fatalf("P1501: route %d of %d is %v, and leaves %d", i, many, got, c.Left())
		}
	}
	next(t, "P1501: behind many", c, 1, nil)
}

// TestEverySlice goes through lists by slices of each length.
func TestEverySlice(t *testing.T) {
	all := routes(ascending)
	for size := range len(all) + 1 {
		want := all[:size]
		for n := 1; n <= size+2; n++ {
			l := slices.Clone(want)
			slices.Reverse(l)
			c := walk.Start(l)
			for at := 0; at < size; at += n {
				left(t, "P1501: on the way", c, size-at)
				next(t, "P1501: on the way", c, n, want[at:min(at+n, size)])
			}
			left(t, "P1501: at the end", c, 0)
			next(t, "P1501: at the end", c, n, nil)
			left(t, "P1501: behind the end", c, 0)
		}
	}
}

// TestNoneAreAsked has numbers that are cut to 0, ahead, on the way and at the end.
func TestNoneAreAsked(t *testing.T) {
	want := routes(ascending)
	c := walk.Start(want)
	for i := range len(want) + 1 {
		for _, n := range []int{0, -1, -2, -len(want), math.MinInt32, math.MinInt} {
			next(t, "P1501: none asked", c, n, nil)
			left(t, "P1501: none asked", c, len(want)-i)
		}
		next(t, "P1501: one asked", c, 1, want[i:min(i+1, len(want))])
	}
}

// TestMoreAreAskedThanLeft has numbers that are cut to as many as are left, from each place on.
func TestMoreAreAskedThanLeft(t *testing.T) {
	want := routes(ascending)
	for i := range len(want) + 1 {
		for _, n := range []int{len(want) - i, len(want) - i + 1, len(want) + 1, 1 << 40, math.MaxInt - 1, math.MaxInt} {
			c := walk.Start(want)
			next(t, "P1501: the first", c, i, want[:i])
			next(t, "P1501: more than are left", c, n, want[i:])
			left(t, "P1501: more than are left", c, 0)
			next(t, "P1501: more of none", c, n, nil)
			left(t, "P1501: more of none", c, 0)
		}
	}
}

// story goes through routes by numbers that follow from seed, and tells all that was answered, or nothing where a plain form has it otherwise.
func story(seed uint64, n, most int) []api.Route {
	chance := chance(seed)
	l := chance.some(n, most)
	want := plain(l)
	c := walk.Start(l)
	var out []api.Route
	for range 3 * n {
		k := chance.next(9) - 3
		cut := max(0, min(k, len(want)))
		if c.Left() != len(want) {
			return nil
		}
		got := c.Next(k)
		if !slices.Equal(got, want[:cut]) {
			return nil
		}
		out, want = append(out, got...), want[cut:]
	}
	return append(out, api.Route{Hop: c.Left()})
}

func TestAgainstAPlainForm(t *testing.T) {
	for _, most := range []int{1, 2, 5, 20, 300, 5000} {
		for n := range 60 {
			if story(uint64(n*most), n, most) == nil {
				t.Errorf("P1501: %d routes of %d prefixes are not gone through as they are sorted", n, most)
			}
		}
	}
}

func TestStartOfNone(t *testing.T) {
	for _, l := range [][]api.Route{nil, {}, make([]api.Route, 0, 3)} {
		c := walk.Start(l)
		if c == nil {
			t.Fatal("P1501: no cursor of no route")
		}
		for _, n := range []int{math.MinInt, -1, 0, 1, math.MaxInt} {
			left(t, "P1501: of no route", c, 0)
			next(t, "P1501: of no route", c, n, nil)
		}
	}
}

func TestNilAndZero(t *testing.T) {
	for _, c := range []*walk.Cursor{nil, {}} {
		for _, n := range []int{math.MinInt, -1, 0, 1, 3, math.MaxInt} {
			left(t, "P1502: a nil or zero one", c, 0)
			next(t, "P1502: a nil or zero one", c, n, nil)
		}
	}
}

// TestTwoHaveNothingInCommon has two of one list, of which each goes its own way.
func TestTwoHaveNothingInCommon(t *testing.T) {
	want := routes(ascending)
	l := slices.Clone(want)
	slices.Reverse(l)
	one, two := walk.Start(l), walk.Start(l)
	for i := range want {
		next(t, "P1502: one of two", one, 1, want[i:i+1])
		left(t, "P1502: one of two", one, len(want)-i-1)
		left(t, "P1502: the other of two", two, len(want))
	}
	next(t, "P1502: the other of two", two, len(want), want)
}

// TestACopyIsOneOfItsOwn has a copy taken at each place, which stands there still when the first one has gone on.
func TestACopyIsOneOfItsOwn(t *testing.T) {
	want := routes(ascending)
	for i := range len(want) + 1 {
		c := walk.Start(want)
		c.Next(i)
		d := *c
		spoil(c.Next(3))
		left(t, "P1502: a copy", &d, len(want)-i)
		spoil(d.Next(5))
		next(t, "P1502: the copy", &d, len(want), want[min(i+5, len(want)):])
		next(t, "P1502: one that had a copy", c, len(want), want[min(i+3, len(want)):])
	}
}

// spoil turns all of a list, its spare room too.
func spoil(l []api.Route) {
	l = l[:cap(l)]
	for i := range l {
		l[i] = api.Route{Prefix: api.Prefix{Len: 77}, Hop: 999}
	}
}

// TestWhatIsHandedInIsNotKept turns the list when the cursor stands, and on its way.
func TestWhatIsHandedInIsNotKept(t *testing.T) {
	want := routes(ascending)
	l := slices.Clone(want)
	c := walk.Start(l)
	spoil(l)
	next(t, "P1502: a list that was turned", c, 5, want[:5])
	spoil(l)
	next(t, "P1502: a list that was turned again", c, len(want), want[5:])

	l = slices.Clone(want)
	got := walk.Sorted(l)
	spoil(l)
	if !slices.Equal(got, want) {
		t.Fatalf("P1502: Sorted keeps its list: %v", got)
	}
}

// TestWhatIsAnsweredIsNew turns answers, with their spare room: neither the list, nor another answer, nor the cursor has it.
func TestWhatIsAnsweredIsNew(t *testing.T) {
	want := routes(ascending)
	l := slices.Clone(want)
	spoil(walk.Sorted(l))
	if !slices.Equal(l, want) {
		t.Fatalf("P1502: what Sorted answered is its list: %v", l)
	}
	sorted(t, "P1502: a second time", l, want)

	for n := range len(want) {
		c := walk.Start(l)
		for i := range 3 {
			got := c.Next(n)
			again := slices.Clone(got)
			at := min(i*n, len(want))
			if !slices.Equal(got, want[at:min(at+n, len(want))]) {
				t.Fatalf("P1502: Next(%d), behind answers that were turned, is %v", n, got)
			}
			rest := *c
			spoil(rest.Next(n))
			if !slices.Equal(got, again) {
				t.Fatalf("P1502: the next answer is in the one ahead: %v", got)
			}
			spoil(got)
		}
	}
	if !slices.Equal(l, want) {
		t.Fatalf("P1502: what Next answered is its list: %v", l)
	}
}

// TestWhatIsHandedInStays has a list with spare room, and one that is a piece of a greater one.
func TestWhatIsHandedInStays(t *testing.T) {
	whole := routes(ascending)
	slices.Reverse(whole)
	whole = append(whole, whole...)
	was := slices.Clone(whole)
	for i := range whole {
		for _, l := range [][]api.Route{whole[:i], whole[i:], whole[i/2 : i]} {
			walk.Sorted(l)
			c := walk.Start(l)
			c.Next(2)
			c.Next(len(l))
			if !slices.Equal(whole, was) {
				t.Fatalf("P1502: a list of %d was turned, or what is beside it", len(l))
			}
		}
	}
}

func TestAskingTurnsNothing(t *testing.T) {
	want := routes(ascending)
	c := walk.Start(want)
	for i := range want {
		for range 3 {
			left(t, "P1502: asked again", c, len(want)-i)
		}
		next(t, "P1502: asked on the way", c, 1, want[i:i+1])
	}
}

// TestAnswersHangOnWhatWasToldAlone has many at once, some of them on one list.
func TestAnswersHangOnWhatWasToldAlone(t *testing.T) {
	want := story(5, 500, 300)
	one := chance(8)
	l := one.some(500, 100)
	inOrder := plain(l)
	again := make([][]api.Route, 8)
	lists := make([][]api.Route, len(again))
	var wait sync.WaitGroup
	for i := range again {
		wait.Go(func() {
			again[i] = story(5, 500, 300)
			lists[i] = walk.Start(l).Next(len(l))
		})
	}
	wait.Wait()
	for i := range again {
		if want == nil || !slices.Equal(again[i], want) || !slices.Equal(lists[i], inOrder) {
			t.Fatal("P1502: the same was told, another was answered")
		}
	}
}
