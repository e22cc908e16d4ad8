package direct_test

import (
	"math"
	"slices"
	"sync"
	"testing"

	"flocculus/api"
	"flocculus/cover"
	"flocculus/direct"
	"flocculus/edges"
)

// place is what Get answers.
type place struct {
	hop  int
	full bool
}

func said(hop int, full bool) place { return place{hop, full} }

// to has places that lead to these hops.
func to(hops ...int) []place {
	var out []place
	for _, hop := range hops {
		out = append(out, place{hop, true})
	}
	return out
}

// at is an address whose first bits make the number i, with those of rest behind them.
func at(i, bits int, rest api.Addr) api.Addr {
	rest.Hi = uint64(i)<<(64-bits) | rest.Hi<<bits>>bits
	return rest
}

// by is what cover.Hop says of each place.
func by(l []api.Route, bits int) []place {
	var out []place
	for i := range 1 << bits {
		out = append(out, said(cover.Hop(l, api.Prefix{Addr: at(i, bits, api.Addr{}), Len: bits}, -1)))
	}
	return out
}

// has fails the test where the places of a are others, whatever bits an address has behind its first ones.
func has(t *testing.T, what string, a *direct.Array, bits int, want []place) {
	t.Helper()
	if a.Len() != len(want) {
		t.Fatalf("%s: an array of %d bits has %d places, want %d", what, bits, a.Len(), len(want))
	}
	for i, w := range want {
		for _, rest := range edges.Samples() {
			x := at(i, bits, rest)
			if got := said(a.Get(x)); got != w {
				t.Fatalf("%s: Get(%v) of %d bits is %v, want %v", what, x, bits, got, w)
			}
		}
	}
}

// fills fails the test where an array that is Filled with l has other places, or l is turned.
func fills(t *testing.T, what string, l []api.Route, bits int, want []place) {
	t.Helper()
	was := slices.Clone(l)
	a := direct.New(bits)
	a.Fill(l)
	has(t, what, a, bits, want)
	if !slices.Equal(l, was) {
		t.Fatalf("%s: Fill turned %v into %v", what, was, l)
	}
}

// all are the prefixes of 0 to n bits, n at most 8, each with a hop of its own.
func all(n int) []api.Route {
	var out []api.Route
	for m := range n + 1 {
		for i := range 1 << m {
			out = append(out, api.Route{Prefix: api.Prefix{Addr: at(i, m, api.Addr{}), Len: m}, Hop: own(m, i)})
		}
	}
	return out
}

// own is the hop that all gives the prefix of n bits that make the number i.
func own(n, i int) int {
	return n<<8 + i
}

func TestANewOneIsEmpty(t *testing.T) {
	sizes := append(edges.Wild(), edges.Lengths()...)
	for n := -3; n < 20; n++ {
		sizes = append(sizes, n)
	}
	for _, n := range sizes {
		bits := max(0, min(n, 8))
		a := direct.New(n)
		has(t, "P2001: a new one", a, bits, make([]place, 1<<bits))
		a.Fill(nil)
		has(t, "P2001: one Filled with nothing", a, bits, make([]place, 1<<bits))
	}
	if direct.New(3).Len() != 8 || direct.New(0).Len() != 1 || direct.New(8).Len() != 256 {
		t.Error("P2001: not 8, 1 and 256 places")
	}
}

// TestBitsThatAreCut fills arrays of bits that none has: they are like those of the nearest that one has.
func TestBitsThatAreCut(t *testing.T) {
	l := append(all(8), edges.Chain(edges.Samples()[5])[9:]...)
	for _, n := range edges.Wild() {
		bits := max(0, min(n, 8))
		a := direct.New(n)
		a.Fill(l)
		has(t, "P2001: bits that are cut", a, bits, by(l, bits))
	}
}

// TestByHand has routes within each other, side by side, and too long, in every order.
func TestByHand(t *testing.T) {
	l := []api.Route{edges.Route("", 1), edges.Route("01", 2), edges.Route("011", 3), edges.Route("1", 4), edges.Route("1110", 5)}
	edges.Each(l, func(l []api.Route) {
		fills(t, "P2001: by hand", l, 0, to(1))
		fills(t, "P2001: by hand", l, 1, to(1, 4))
		fills(t, "P2001: by hand", l, 2, to(1, 2, 4, 4))
		fills(t, "P2001: by hand", l, 3, to(1, 1, 2, 3, 4, 4, 4, 4))
		fills(t, "P2001: by hand", l, 4, to(1, 1, 1, 1, 2, 2, 3, 3, 4, 4, 4, 4, 4, 4, 5, 4))
	})
	edges.Each(l[1:], func(l []api.Route) {
		none := make([]place, 4)
		fills(t, "P2001: by hand, with places that are empty", l, 0, none[:1])
		fills(t, "P2001: by hand, with places that are empty", l, 1, append(none[:1:1], to(4)...))
		fills(t, "P2001: by hand, with places that are empty", l, 2, append(none[:1:1], to(2, 4, 4)...))
		fills(t, "P2001: by hand, with places that are empty", l, 3, append(none[:2:2], to(2, 3, 4, 4, 4, 4)...))
		fills(t, "P2001: by hand, with places that are empty", l, 4, append(none[:4:4], to(2, 2, 3, 3, 4, 4, 4, 4, 4, 4, 5, 4)...))
	})
}

// TestOneRoute has one of each length: it fills the places that begin with it, and none where it is longer than they are.
func TestOneRoute(t *testing.T) {
	for _, a := range edges.Samples() {
		for n := range 129 {
			for bits := range 9 {
				want := make([]place, 1<<bits)
				if n <= bits {
					first := int(a.Hi >> (64 - n) << (bits - n))
					copy(want[first:], slices.Repeat(to(5), 1<<(bits-n)))
				}
				fills(t, "P2001: one route", []api.Route{{Prefix: edges.First(a, n), Hop: 5}}, bits, want)
			}
		}
	}
}

// TestAllRoutes has all prefixes up to each length: each place leads to the longest of them, if it is not too long.
func TestAllRoutes(t *testing.T) {
	for most := range 9 {
		l := all(most)
		back := slices.Clone(l)
		slices.Reverse(back)
		for bits := range 9 {
			n := min(most, bits)
			var want []place
			for i := range 1 << bits {
				want = append(want, place{own(n, i>>(bits-n)), true})
			}
			fills(t, "P2001: all routes", l, bits, want)
			fills(t, "P2001: all routes, from the last one on", back, bits, want)
		}
	}
}

// TestAChain has every length within every other: a place that turns off at a bit has the last route ahead of it.
func TestAChain(t *testing.T) {
	for _, a := range edges.Samples() {
		l := edges.Chain(a)
		for bits := range 9 {
			want := make([]place, 1<<bits)
			for i := range want {
				n := 0
				for n < bits && at(i, bits, api.Addr{}).Hi>>(63-n) == a.Hi>>(63-n) {
					n++
				}
				want[i] = place{n + 1000, true}
			}
			fills(t, "P2001: a chain", l, bits, want)
		}
	}
}

// TestTheLastOfOnePrefixCounts has some prefixes several times, in every order.
func TestTheLastOfOnePrefixCounts(t *testing.T) {
	l := []api.Route{edges.Route("1", 1), edges.Route("1", 2), edges.Route("1", 3), edges.Route("10", 4), edges.Route("10", 5)}
	edges.Each(l, func(l []api.Route) {
		last := map[api.Prefix]int{}
		for _, r := range l {
			last[r.Prefix] = r.Hop
		}
		one, two := last[edges.Read("1")], last[edges.Read("10")]
		fills(t, "P2001: several of one prefix", l, 1, append(make([]place, 1), to(one)...))
		fills(t, "P2001: several of one prefix", l, 2, append(make([]place, 2), to(two, one)...))
	})
}

// TestAnyHop has each hop alone, behind each other one, and around it: a place that leads to 0, or below, is not empty.
func TestAnyHop(t *testing.T) {
	for _, one := range edges.Hops() {
		for bits := range 9 {
			fills(t, "P2001: any hop", []api.Route{{Hop: one}}, bits, slices.Repeat(to(one), 1<<bits))
		}
		for _, two := range edges.Hops() {
			fills(t, "P2001: any hop", []api.Route{edges.Route("1", one), edges.Route("1", two)}, 1, append(make([]place, 1), to(two)...))
			fills(t, "P2001: any hop", []api.Route{edges.Route("1", one), edges.Route("", two)}, 1, to(two, one))
		}
	}
}

// TestWrongRoutes has routes of prefixes that are none, alone and beside right ones, where they turn nothing.
func TestWrongRoutes(t *testing.T) {
	for _, p := range edges.Wrong() {
		bad := []api.Route{{Prefix: p, Hop: 9}}
		for bits := range 9 {
			fills(t, "P2001: a wrong route", bad, bits, make([]place, 1<<bits))
			good := edges.Chain(p.Addr)
			want := by(good, bits)
			fills(t, "P2001: a wrong route behind right ones", append(slices.Clone(good), bad...), bits, want)
			fills(t, "P2001: a wrong route ahead of right ones", append(slices.Clone(bad), good...), bits, want)
		}
	}
}

// TestFillAnew fills one after the other: only the last list is there.
func TestFillAnew(t *testing.T) {
	lists := [][]api.Route{
		nil,
		all(8),
		{edges.Route("0", 1)},
		{edges.Route("1", 2), edges.Route("10", 3)},
		{edges.Route("", 4)},
		{edges.Route("111111111", 5)},
		{{Prefix: api.Prefix{Len: -1}, Hop: 6}},
		{},
	}
	for bits := range 9 {
		a := direct.New(bits)
		for _, one := range lists {
			for _, two := range lists {
				a.Fill(one)
				has(t, "P2001: Filled", a, bits, by(one, bits))
				a.Fill(two)
				has(t, "P2001: Filled anew", a, bits, by(two, bits))
			}
		}
	}
}

// TestGetReadsTheFirstBitsAlone turns each bit of an address: one of the first leads to another place, one behind them to the same.
func TestGetReadsTheFirstBitsAlone(t *testing.T) {
	for bits := range 9 {
		a := direct.New(bits)
		a.Fill(all(8))
		for _, x := range edges.Samples() {
			was := said(a.Get(x))
			for i := range 128 {
				now := said(a.Get(edges.Flip(x, i)))
				if !now.full || (now == was) != (i >= bits) {
					t.Errorf("P2001: Get of %d bits is %v where it was %v, with bit %d of %v turned", bits, now, was, i, x)
				}
			}
		}
	}
}

// story fills an array, time and again, by numbers that follow from seed, and tells all that it had, or nothing where cover.Hop has it otherwise.
func story(seed uint64) []place {
	c := edges.Chance(seed)
	bits := c.Next(9)
	a := direct.New(bits)
	x := edges.Samples()[c.Next(len(edges.Samples()))]
	out := []place{{hop: bits}}
	for range 20 {
		var l []api.Route
		for range c.Next(40) {
			p := c.Near(x, 0)
			if c.Next(10) == 0 {
				p = edges.Wrong()[c.Next(len(edges.Wrong()))]
			}
			l = append(l, api.Route{Prefix: p, Hop: c.Next(40) - 5})
		}
		a.Fill(l)
		for i, want := range by(l, bits) {
			got := said(a.Get(at(i, bits, x)))
			if got != want {
				return nil
			}
			out = append(out, got)
		}
	}
	return out
}

func TestAgainstCover(t *testing.T) {
	for seed := range 400 {
		if story(uint64(seed)) == nil {
			t.Errorf("P2001: the places don't have what cover.Hop has of them (seed %d)", seed)
		}
	}
}

// TestManyRoutes has many too long ones, and each of 8 bits many times.
func TestManyRoutes(t *testing.T) {
	var l []api.Route
	for i := range 1 << 16 {
		l = append(l, api.Route{Prefix: api.Prefix{Addr: at(i%256, 8, api.Addr{}), Len: 8}, Hop: i})
		l = append(l, api.Route{Prefix: api.Prefix{Addr: at(i, 16, api.Addr{}), Len: 16}, Hop: i})
	}
	var want []place
	for i := range 256 {
		want = append(want, place{1<<16 - 256 + i, true})
	}
	fills(t, "P2001: many routes", l, 8, want)
	fills(t, "P2001: many routes", l, 7, make([]place, 128))
}

// TestNilOnes has a nil one, and the zero value, of which the chapter does not speak: neither has a place.
func TestNilOnes(t *testing.T) {
	for _, a := range []*direct.Array{nil, {}} {
		for _, l := range [][]api.Route{nil, {{}}, all(8), edges.Chain(edges.Samples()[1])} {
			a.Fill(l)
			if a.Len() != 0 {
				t.Errorf("P2002: a nil one has %d places", a.Len())
			}
			for _, x := range edges.Samples() {
				if got := said(a.Get(x)); got != (place{}) {
					t.Errorf("P2002: Get(%v) of a nil one is %v", x, got)
				}
			}
		}
	}
}

// TestTwoHaveNothingInCommon fills one of two, and one of an array and its copy.
func TestTwoHaveNothingInCommon(t *testing.T) {
	one, two := all(8), []api.Route{edges.Route("", -7)}
	for bits := range 9 {
		a, b := direct.New(bits), direct.New(bits)
		a.Fill(one)
		has(t, "P2002: beside one that was Filled", b, bits, make([]place, 1<<bits))
		b.Fill(two)
		has(t, "P2002: beside one that was Filled", a, bits, by(one, bits))
		c := *a
		a.Fill(two)
		has(t, "P2002: a copy of one that was Filled", &c, bits, by(one, bits))
		c.Fill(nil)
		has(t, "P2002: one whose copy was Filled", a, bits, by(two, bits))
		has(t, "P2002: beside three that were Filled", b, bits, by(two, bits))
	}
}

// TestWhatIsHandedInStays has pieces of a list, and turns it all, its spare room too, when they are Filled: what was there counts.
func TestWhatIsHandedInStays(t *testing.T) {
	whole := append(edges.Chain(edges.Samples()[5]), all(8)...)
	slices.Reverse(whole)
	was := slices.Clone(whole)
	for i := range whole {
		for _, l := range [][]api.Route{whole[:i], whole[i:], whole[i/2 : i]} {
			direct.New(0).Fill(l)
			direct.New(8).Fill(l)
		}
		if !slices.Equal(whole, was) {
			t.Fatalf("P2002: a list of %d was turned, or what is beside it", i)
		}
	}
	for bits := range 9 {
		l := slices.Clone(was)
		a := direct.New(bits)
		a.Fill(l)
		edges.Fill(l, api.Route{Hop: math.MaxInt})
		has(t, "P2002: behind a list that was turned", a, bits, by(was, bits))
	}
}

// TestManyAtOnce has many fill arrays of their own with one list, and ask another together.
func TestManyAtOnce(t *testing.T) {
	l, want := all(8), story(5)
	shared := direct.New(8)
	shared.Fill(l)
	again := make([][]place, 8)
	filled := make([]*direct.Array, len(again))
	found := make([]place, len(again))
	var wait sync.WaitGroup
	for i := range again {
		wait.Go(func() {
			again[i] = story(5)
			filled[i] = direct.New(i)
			filled[i].Fill(l)
			found[i] = said(shared.Get(at(i, 8, api.Addr{})))
		})
	}
	wait.Wait()
	for i := range again {
		if want == nil || !slices.Equal(again[i], want) || found[i] != (place{own(8, i), true}) {
			t.Fatal("P2002: the same was told, another was answered")
		}
		has(t, "P2002: Filled beside others", filled[i], i, by(l, i))
	}
}
