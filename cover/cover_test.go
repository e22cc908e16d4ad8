package cover_test

import (
	"cmp"
	"math"
	"slices"
	"sync"
	"testing"

	"flocculus/addr"
	"flocculus/api"
	"flocculus/cover"
	"flocculus/edges"
)

// answer is what Hop answers.
type answer struct {
	hop int
	ok  bool
}

func said(hop int, ok bool) answer { return answer{hop, ok} }

// plainHop goes down from the length of k, and asks at each whether there is a route.
func plainHop(l []api.Route, k api.Prefix, low int) answer {
	for n := min(k.Len, 128); n >= 0 && n > low; n-- {
		for i := len(l) - 1; i >= 0; i-- {
			if l[i].Prefix == edges.First(k.Addr, n) {
				return answer{l[i].Hop, true}
			}
		}
	}
	return answer{}
}

// plainSet doubles each prefix bit by bit up to high, and asks plainHop of all that come of it.
func plainSet(l []api.Route, low, high int) []api.Route {
	all := map[api.Prefix]int{}
	for _, r := range l {
		p := r.Prefix
		if !addr.Right(p) || p.Len <= low || p.Len > high || high > 128 || high-p.Len > 8 {
			continue
		}
		keys := []api.Addr{p.Addr}
		for i := p.Len; i < high; i++ {
			for _, a := range keys {
				keys = append(keys, edges.Flip(a, i))
			}
		}
		for _, a := range keys {
			k := api.Prefix{Addr: a, Len: high}
			all[k] = plainHop(l, k, low).hop
		}
	}
	var out []api.Route
	for k, hop := range all {
		out = append(out, api.Route{Prefix: k, Hop: hop})
	}
	slices.SortFunc(out, func(x, y api.Route) int {
		a, b := x.Prefix.Addr, y.Prefix.Addr
		return cmp.Or(cmp.Compare(a.Hi, b.Hi), cmp.Compare(a.Lo, b.Lo))
	})
	return out
}

// hop fails the test where Hop is another, or turns l.
func hop(t *testing.T, what string, l []api.Route, k api.Prefix, low int, want answer) {
	t.Helper()
	was := slices.Clone(l)
	if got := said(cover.Hop(l, k, low)); got != want {
		t.Fatalf("%s: Hop(%v, %v, %d) is %v, want %v", what, was, k, low, got, want)
	}
	if !slices.Equal(l, was) {
		t.Fatalf("%s: Hop turned %v into %v", what, was, l)
	}
}

// set fails the test where Set is another, or turns l.
func set(t *testing.T, what string, l []api.Route, low, high int, want []api.Route) {
	t.Helper()
	was := slices.Clone(l)
	if got := cover.Set(l, low, high); !slices.Equal(got, want) {
		t.Fatalf("%s: Set(%v, %d, %d) is %v, want %v", what, was, low, high, got, want)
	}
	if !slices.Equal(l, was) {
		t.Fatalf("%s: Set turned %v into %v", what, was, l)
	}
}

func TestOfNothing(t *testing.T) {
	bounds := append(edges.Wild(), edges.Lengths()...)
	for _, l := range [][]api.Route{nil, {}, make([]api.Route, 0, 3)} {
		for _, low := range bounds {
			for _, high := range bounds {
				set(t, "P1801: of nothing", l, low, high, nil)
				hop(t, "P1801: of nothing", l, edges.First(edges.Samples()[5], min(max(high, 0), 128)), low, answer{})
			}
		}
	}
}

// TestHopOfOne has one route of each length: what is above low and at most the key's length is found, and the rest is not.
func TestHopOfOne(t *testing.T) {
	for _, a := range edges.Samples() {
		for n := range 129 {
			l := []api.Route{{Prefix: edges.First(a, n), Hop: 5}}
			for _, m := range append([]int{max(n-1, 0), n, min(n+1, 128)}, edges.Lengths()...) {
				for _, low := range []int{math.MinInt, -2, -1, 0, n - 2, n - 1, n, n + 1, 128, math.MaxInt} {
					hop(t, "P1801: of one", l, edges.First(a, m), low, cond(n > low && n <= m, answer{5, true}, answer{}))
				}
			}
		}
	}
}

// cond is a where it is so, else b.
func cond(so bool, a, b answer) answer {
	if so {
		return a
	}
	return b
}

// TestHopOfAnother has keys that differ from the route in one bit: only one behind the route's length leaves it the key's.
func TestHopOfAnother(t *testing.T) {
	for _, a := range edges.Samples() {
		for _, n := range edges.Lengths() {
			l := []api.Route{{Prefix: edges.First(a, n), Hop: 5}}
			for i := range 128 {
				want := answer{}
				if i >= n {
					want = answer{5, true}
				}
				hop(t, "P1801: a key with another bit", l, edges.First(edges.Flip(a, i), 128), -1, want)
			}
		}
	}
}

// TestHopOfTheLongest has a route of each length, in two orders: the key's own is taken, or none where it is not above low.
func TestHopOfTheLongest(t *testing.T) {
	for _, a := range edges.Samples()[2:5] {
		l := edges.Chain(a)
		back := slices.Clone(l)
		slices.Reverse(back)
		for n := range 129 {
			for _, low := range append([]int{n - 1, n, n + 1}, edges.Wild()...) {
				want := answer{}
				if n > low {
					want = answer{n + 1000, true}
				}
				hop(t, "P1801: the longest of all", l, edges.First(a, n), low, want)
				hop(t, "P1801: the longest of all, from the longest on", back, edges.First(a, n), low, want)
			}
		}
	}
}

// TestHopGoesRoundGaps has routes of few lengths, and others beside the key.
func TestHopGoesRoundGaps(t *testing.T) {
	l := []api.Route{edges.Route("", 1), edges.Route("01", 2), edges.Route("0110", 3), edges.Route("011011", 4), edges.Route("0111", 5), edges.Route("00", 6), edges.Route("0110111", 7)}
	key := edges.Read("01101100")
	for _, x := range []struct {
		n, low int
		want   answer
	}{
		{8, -1, answer{4, true}}, {8, 5, answer{4, true}}, {8, 6, answer{}},
		{6, -1, answer{4, true}}, {5, -1, answer{3, true}}, {5, 3, answer{3, true}}, {5, 4, answer{}},
		{4, 0, answer{3, true}}, {3, 0, answer{2, true}}, {3, 1, answer{2, true}}, {3, 2, answer{}},
		{2, -1, answer{2, true}}, {1, -1, answer{1, true}}, {1, 0, answer{}},
		{0, -1, answer{1, true}}, {0, 0, answer{}},
	} {
		edges.Each(l[:5], func(l []api.Route) { hop(t, "P1801: gaps", l, edges.First(key.Addr, x.n), x.low, x.want) })
		hop(t, "P1801: gaps", l, edges.First(key.Addr, x.n), x.low, x.want)
	}
}

// TestWrongKeys asks for the first bits of addresses, be there bits behind the length or not, and for lengths that no key has.
func TestWrongKeys(t *testing.T) {
	for _, a := range edges.Samples() {
		l := edges.Chain(a)
		for n := range 129 {
			k := api.Prefix{Addr: a, Len: n}
			hop(t, "P1801: a key with bits behind its length", l, k, -1, answer{n + 1000, true})
			hop(t, "P1801: a key with bits behind its length", l, k, n, answer{})
		}
		for _, n := range edges.Wild() {
			want := answer{}
			if n > 128 {
				want = answer{1128, true}
			}
			hop(t, "P1801: a key of no such length", l, api.Prefix{Addr: a, Len: n}, math.MinInt, want)
			hop(t, "P1801: a key of no such length", l[:9], api.Prefix{Addr: a, Len: n}, 7, cond(n > 128, answer{1008, true}, answer{}))
			hop(t, "P1801: a key of no such length", l, api.Prefix{Addr: a, Len: n}, 128, answer{})
		}
	}
}

// TestWrongRoutes has routes of prefixes that are none, alone, ahead of right ones and behind them, none of which turns anything.
func TestWrongRoutes(t *testing.T) {
	for _, p := range edges.Wrong() {
		bad := []api.Route{{Prefix: p, Hop: 9}}
		for _, low := range []int{math.MinInt, p.Len - 1, -3, -1, 0, 60} {
			for _, high := range append([]int{p.Len, p.Len + 1}, edges.Lengths()...) {
				set(t, "P1801: a wrong route", bad, low, high, nil)
				hop(t, "P1801: a wrong route", bad, api.Prefix{Addr: p.Addr, Len: high}, low, answer{})
				hop(t, "P1801: a wrong route", bad, api.Prefix{Addr: p.Addr, Len: p.Len}, low, answer{})

				// The key that the wrong one could be taken for.
				n := min(max(high, 0), 128)
				good := []api.Route{{Prefix: edges.First(p.Addr, n), Hop: 5}}
				for _, l := range [][]api.Route{append(slices.Clone(good), bad...), append(slices.Clone(bad), good...)} {
					set(t, "P1801: a right route and a wrong one", l, low, n, cover.Set(good, low, n))
					hop(t, "P1801: a right route and a wrong one", l, edges.First(p.Addr, n), low, cond(n > low, answer{5, true}, answer{}))
				}
			}
		}
	}
}

// TestTheLastOfOnePrefixCounts has some prefixes several times, in every order.
func TestTheLastOfOnePrefixCounts(t *testing.T) {
	l := []api.Route{edges.Route("01", 1), edges.Route("01", 2), edges.Route("01", 3), edges.Route("0", 4), edges.Route("0", 5), edges.Route("011", 6)}
	edges.Each(l, func(l []api.Route) {
		last := map[api.Prefix]int{}
		for _, r := range l {
			last[r.Prefix] = r.Hop
		}
		zero, two := last[edges.Read("0")], last[edges.Read("01")]
		hop(t, "P1801: several of one prefix", l, edges.Read("010"), -1, answer{two, true})
		hop(t, "P1801: several of one prefix", l, edges.Read("000"), -1, answer{zero, true})
		hop(t, "P1801: several of one prefix", l, edges.Read("0"), -1, answer{zero, true})
		hop(t, "P1801: several of one prefix", l, edges.Read("011"), -1, answer{6, true})
		set(t, "P1801: several of one prefix", l, -1, 3, []api.Route{edges.Route("000", zero), edges.Route("001", zero), edges.Route("010", two), edges.Route("011", 6)})
		set(t, "P1801: several of one prefix", l, 1, 2, []api.Route{edges.Route("01", two)})
		set(t, "P1801: several of one prefix", l, 0, 1, []api.Route{edges.Route("0", zero)})
	})
}

// TestAnyHop has each hop alone, ahead of and behind each other one, and on a route within one of the other.
func TestAnyHop(t *testing.T) {
	for _, one := range edges.Hops() {
		for _, two := range edges.Hops() {
			l := []api.Route{edges.Route("10", one), edges.Route("10", two)}
			hop(t, "P1801: any hop", l[:1], edges.Read("10"), -1, answer{one, true})
			hop(t, "P1801: any hop", l, edges.Read("10"), -1, answer{two, true})
			set(t, "P1801: any hop", l, -1, 2, []api.Route{edges.Route("10", two)})
			l = []api.Route{edges.Route("1", one), edges.Route("10", two)}
			set(t, "P1801: any hop", l, -1, 2, []api.Route{edges.Route("10", two), edges.Route("11", one)})
			hop(t, "P1801: any hop", l, edges.Read("11"), -1, answer{one, true})
			hop(t, "P1801: any hop", l, edges.Read("10"), -1, answer{two, true})
		}
	}
}

// TestSetByHand has routes side by side, within each other, and too short, in every order.
func TestSetByHand(t *testing.T) {
	l := []api.Route{edges.Route("", 1), edges.Route("01", 2), edges.Route("011", 3), edges.Route("1", 4), edges.Route("111", 5), edges.Route("0110", 6)}
	for _, x := range []struct {
		low, high int
		want      []api.Route
	}{
		{-1, 0, []api.Route{edges.Route("", 1)}},
		{-5, 0, []api.Route{edges.Route("", 1)}},
		{-1, 1, []api.Route{edges.Route("0", 1), edges.Route("1", 4)}},
		{0, 1, []api.Route{edges.Route("1", 4)}},
		{-1, 2, []api.Route{edges.Route("00", 1), edges.Route("01", 2), edges.Route("10", 4), edges.Route("11", 4)}},
		{0, 2, []api.Route{edges.Route("01", 2), edges.Route("10", 4), edges.Route("11", 4)}},
		{1, 2, []api.Route{edges.Route("01", 2)}},
		{-1, 3, []api.Route{edges.Route("000", 1), edges.Route("001", 1), edges.Route("010", 2), edges.Route("011", 3), edges.Route("100", 4), edges.Route("101", 4), edges.Route("110", 4), edges.Route("111", 5)}},
		{0, 3, []api.Route{edges.Route("010", 2), edges.Route("011", 3), edges.Route("100", 4), edges.Route("101", 4), edges.Route("110", 4), edges.Route("111", 5)}},
		{1, 3, []api.Route{edges.Route("010", 2), edges.Route("011", 3), edges.Route("111", 5)}},
		{2, 3, []api.Route{edges.Route("011", 3), edges.Route("111", 5)}},
		{1, 4, []api.Route{edges.Route("0100", 2), edges.Route("0101", 2), edges.Route("0110", 6), edges.Route("0111", 3), edges.Route("1110", 5), edges.Route("1111", 5)}},
		{2, 4, []api.Route{edges.Route("0110", 6), edges.Route("0111", 3), edges.Route("1110", 5), edges.Route("1111", 5)}},
		{3, 4, []api.Route{edges.Route("0110", 6)}},
		{3, 5, []api.Route{edges.Route("01100", 6), edges.Route("01101", 6)}},
		{4, 5, nil},
		{3, 3, nil},
		{3, 2, nil},
		{0, 0, nil},
		{-1, -1, nil},
	} {
		edges.Each(l, func(l []api.Route) { set(t, "P1801: by hand", l, x.low, x.high, x.want) })
	}
}

// TestSetOfOne has one route of each length, to each length: its keys, or none of them where they are more than MaxSpread.
func TestSetOfOne(t *testing.T) {
	for _, a := range edges.Samples() {
		for n := range 129 {
			l := []api.Route{{Prefix: edges.First(a, n), Hop: n}}
			for high := range 131 {
				want := 0
				if high >= n && high <= 128 && high-n <= 8 {
					want = 1 << (high - n)
				}
				got := cover.Set(l, n-1, high)
				if len(got) != want || !slices.Equal(got, plainSet(l, n-1, high)) {
					t.Fatalf("P1801: Set of %v, %d, %d has %d keys, want %d: %v", l, n-1, high, len(got), want, got)
				}
				set(t, "P1801: of one, not above low", l, n, high, nil)
			}
		}
	}
}

// TestSetOfThoseTooShort has routes that make none beside, around and behind ones that make some.
func TestSetOfThoseTooShort(t *testing.T) {
	wide, narrow := edges.Route("", 1), edges.Route("0101", 2)
	for _, x := range []struct {
		high int
		l    []api.Route
		want int
	}{
		{8, []api.Route{wide}, 256},
		{9, []api.Route{wide}, 0},
		{8, []api.Route{wide, narrow}, 256},
		{9, []api.Route{wide, narrow}, 32},
		{12, []api.Route{wide, narrow}, 256},
		{13, []api.Route{wide, narrow}, 0},
		{9, []api.Route{wide, narrow, edges.Route("0", 3)}, 256},
		{9, []api.Route{wide, narrow, edges.Route("1", 3)}, 256 + 32},
		{10, []api.Route{wide, narrow, edges.Route("1", 3), edges.Route("01", 4), edges.Route("010111", 5)}, 256},
		{12, []api.Route{wide, narrow, edges.Route("0100", 3), edges.Route("01", 4), edges.Route("010111", 5)}, 512},
	} {
		edges.Each(x.l, func(l []api.Route) {
			got := cover.Set(l, -1, x.high)
			if len(got) != x.want || !slices.Equal(got, plainSet(l, -1, x.high)) {
				t.Fatalf("P1801: Set of %v to %d has %d keys, want %d: %v", l, x.high, len(got), x.want, got)
			}
		})
	}
}

// TestSetOfAChain has every length within every other, at the edge of the words and at the end.
func TestSetOfAChain(t *testing.T) {
	for _, a := range edges.Samples() {
		l := edges.Chain(a)
		for _, high := range edges.Lengths() {
			for _, low := range []int{math.MinInt, -1, 0, high - 10, high - 9, high - 8, high - 3, high - 1, high, high + 1, math.MaxInt} {
				set(t, "P1801: of a chain", l, low, high, plainSet(l, low, high))
			}
		}
	}
}

// TestWildBounds has bounds that no length is, with routes of all lengths.
func TestWildBounds(t *testing.T) {
	l := edges.Chain(edges.Samples()[4])
	for _, one := range edges.Wild() {
		for _, two := range append(edges.Lengths(), edges.Wild()...) {
			set(t, "P1801: a level of no such length", l, two, one, nil)
			want := []api.Route(nil)
			if one < 0 && two >= 0 && two <= 128 {
				want = plainSet(l, -1, two)
			}
			set(t, "P1801: above no such length", l, one, two, want)
		}
	}
}

// story asks of routes by numbers that follow from seed, and tells all that was answered, or nothing where a plain form has it otherwise.
func story(seed uint64, at, n int) []api.Route {
	c := edges.Chance(seed)
	a := edges.Samples()[c.Next(len(edges.Samples()))]
	var l []api.Route
	for range n {
		p := c.Near(a, at)
		if c.Next(10) == 0 {
			p = edges.Wrong()[c.Next(len(edges.Wrong()))]
		}
		l = append(l, api.Route{Prefix: p, Hop: c.Next(40) - 5})
	}
	out := []api.Route{{Hop: 1}}
	for range 20 {
		k, low := c.Near(a, at), at+c.Next(16)-2
		got := said(cover.Hop(l, k, low))
		high := low + c.Next(13) - 1
		keys := cover.Set(l, low, high)
		if got != plainHop(l, k, low) || !slices.Equal(keys, plainSet(l, low, high)) {
			return nil
		}
		for _, r := range keys {
			if said(cover.Hop(l, r.Prefix, low)) != (answer{r.Hop, true}) {
				return nil
			}
		}
		out = append(append(out, keys...), api.Route{Prefix: k, Hop: got.hop})
	}
	return out
}

func TestAgainstAPlainForm(t *testing.T) {
	for _, at := range []int{-2, 0, 1, 20, 55, 58, 62, 64, 70, 112, 116, 120, 126} {
		for n := range 40 {
			if story(uint64(n*1000+at), max(at, 0), n) == nil {
				t.Errorf("P1801: %d routes near %d bits don't make what the plain form has", n, at)
			}
		}
	}
}

// TestManyRoutes has so many that asking each key of each route would not end in time.
func TestManyRoutes(t *testing.T) {
	const many = 1 << 13
	var l []api.Route
	for i := range many {
		// An odd factor turns the numbers about, and leaves none out.
		at := uint64(i*4051%many) << 51
		l = append(l, api.Route{Prefix: api.Prefix{Addr: api.Addr{Hi: at}, Len: 13}, Hop: i})
		l = append(l, api.Route{Prefix: api.Prefix{Addr: api.Addr{Hi: at | 1<<50}, Len: 15}, Hop: i + many})
	}
	got := cover.Set(l, 12, 19)
	if len(got) != many<<6 {
		t.Fatalf("P1801: Set of many has %d keys, want %d", len(got), many<<6)
	}
	for i, r := range got {
		hop := r.Hop
		if i>>4&3 == 2 {
			hop -= many
		}
		if want := (api.Prefix{Addr: api.Addr{Hi: uint64(i) << 45}, Len: 19}); r.Prefix != want || hop < 0 || hop >= many || hop*4051%many != i>>6 {
			t.Fatalf("P1801: key %d of many is %v", i, r)
		}
	}
}

// TestWhatIsHandedInStays has lists with spare room, and pieces of a greater one.
func TestWhatIsHandedInStays(t *testing.T) {
	whole := edges.Chain(edges.Samples()[5])
	slices.Reverse(whole)
	whole = append(whole, whole...)
	was := slices.Clone(whole)
	for i := range whole {
		for _, l := range [][]api.Route{whole[:i], whole[i:], whole[i/2 : i]} {
			for _, high := range []int{8, 64, 128} {
				cover.Set(l, high-9, high)
				cover.Hop(l, edges.First(edges.Samples()[5], high), -1)
			}
			if !slices.Equal(whole, was) {
				t.Fatalf("P1802: a list of %d was turned, or what is beside it", len(l))
			}
		}
	}
}

// TestWhatIsAnsweredIsNew turns answers, and lists that were handed in, with their spare room: neither is seen in the other, nor in another answer.
func TestWhatIsAnsweredIsNew(t *testing.T) {
	for _, n := range edges.Lengths() {
		l := edges.Chain(edges.Samples()[5])
		was := slices.Clone(l)
		want := plainSet(l, n-1, n)
		one, two := cover.Set(l, n-1, n), cover.Set(l, n-1, n)
		edges.Fill(one, edges.Route("1111", 999))
		if !slices.Equal(l, was) || !slices.Equal(two, want) {
			t.Fatalf("P1802: an answer of %d bits that was turned is seen in %v or %v", n, l, two)
		}
		edges.Fill(l, edges.Route("1111", 999))
		if !slices.Equal(two, want) {
			t.Fatalf("P1802: a list that was turned is seen in %v", two)
		}
		set(t, "P1802: behind answers that were turned", was, n-1, n, want)
	}
}

// TestAnswersHangOnArgumentsAlone has many at once, all of them on one list.
func TestAnswersHangOnArgumentsAlone(t *testing.T) {
	l := edges.Chain(edges.Samples()[4])
	want := story(5, 58, 40)
	keys := plainSet(l, 60, 66)
	again := make([][]api.Route, 8)
	sets := make([][]api.Route, len(again))
	found := make([]answer, len(again))
	var wait sync.WaitGroup
	for i := range again {
		wait.Go(func() {
			again[i] = story(5, 58, 40)
			sets[i] = cover.Set(l, 60, 66)
			found[i] = said(cover.Hop(l, edges.First(edges.Samples()[4], 128), -1))
		})
	}
	wait.Wait()
	for i := range again {
		if want == nil || !slices.Equal(again[i], want) || !slices.Equal(sets[i], keys) || found[i] != (answer{1128, true}) {
			t.Fatal("P1802: the same was told, another was answered")
		}
	}
}
