package delta_test

import (
	"cmp"
	"math"
	"slices"
	"sync"
	"testing"

	"flocculus/api"
	"flocculus/cover"
	"flocculus/delta"
	"flocculus/edges"
)

// change has the key of text turn.
func change(text string, old, now int) delta.Change {
	return delta.Change{Key: edges.Read(text), Old: old, New: now}
}

// less is addr.Less told by its words.
func less(p, q api.Prefix) int {
	return cmp.Or(cmp.Compare(p.Addr.Hi, q.Addr.Hi), cmp.Compare(p.Addr.Lo, q.Addr.Lo), cmp.Compare(p.Len, q.Len))
}

// hopsOf has the last hop of each prefix.
func hopsOf(l []api.Route) map[api.Prefix]int {
	out := map[api.Prefix]int{}
	for _, r := range l {
		out[r.Prefix] = r.Hop
	}
	return out
}

// plainOf asks of each key that is in either.
func plainOf(from, to map[api.Prefix]int) []delta.Change {
	all := map[api.Prefix]bool{}
	for k := range from {
		all[k] = true
	}
	for k := range to {
		all[k] = true
	}
	var out []delta.Change
	for k := range all {
		old, was := from[k]
		now, is := to[k]
		if !was {
			old = -1
		}
		if !is {
			now = -1
		}
		if !was || !is || old != now {
			out = append(out, delta.Change{Key: k, Old: old, New: now})
		}
	}
	slices.SortFunc(out, func(a, b delta.Change) int { return less(a.Key, b.Key) })
	return out
}

// plainSet lays the keys of each length of the routes over those of the shorter ones.
func plainSet(l []api.Route, low, high int) map[api.Prefix]int {
	out := map[api.Prefix]int{}
	for n := max(high-8, 0); n >= 0 && n <= high && high <= 128; n++ {
		for _, r := range l {
			if n <= low || r.Prefix != edges.First(r.Prefix.Addr, n) {
				continue
			}
			for turned := range 1 << (high - n) {
				a := r.Prefix.Addr
				for i := range high - n {
					if turned>>i&1 == 1 {
						a = edges.Flip(a, n+i)
					}
				}
				out[api.Prefix{Addr: a, Len: high}] = r.Hop
			}
		}
	}
	return out
}

// turned is l with p leading to hop, or without it.
func turned(l []api.Route, p api.Prefix, hop int) []api.Route {
	var out []api.Route
	for _, r := range l {
		if r.Prefix != p {
			out = append(out, r)
		}
	}
	if hop >= 0 {
		out = append(out, api.Route{Prefix: p, Hop: hop})
	}
	return out
}

// plainLevel works out the whole level twice.
func plainLevel(l []api.Route, p api.Prefix, hop, low, high int) []delta.Change {
	return plainOf(plainSet(l, low, high), plainSet(turned(l, p, hop), low, high))
}

// of fails the test where Of is another, or turns what it is handed.
func of(t *testing.T, what string, from, to []api.Route, want []delta.Change) {
	t.Helper()
	was, is := slices.Clone(from), slices.Clone(to)
	if got := delta.Of(from, to); !slices.Equal(got, want) {
		t.Fatalf("%s: Of(%v, %v) is %v, want %v", what, was, is, got, want)
	}
	if !slices.Equal(from, was) || !slices.Equal(to, is) {
		t.Fatalf("%s: Of turned %v into %v, or %v into %v", what, was, from, is, to)
	}
}

// level fails the test where Level is another, or turns l.
func level(t *testing.T, what string, l []api.Route, p api.Prefix, hop, low, high int, want []delta.Change) {
	t.Helper()
	was := slices.Clone(l)
	if got := delta.Level(l, p, hop, low, high); !slices.Equal(got, want) {
		t.Fatalf("%s: Level(%v, %v, %d, %d, %d) is %v, want %v", what, was, p, hop, low, high, got, want)
	}
	if !slices.Equal(l, was) {
		t.Fatalf("%s: Level turned %v into %v", what, was, l)
	}
}

func TestOfNothing(t *testing.T) {
	empty := [][]api.Route{nil, {}, make([]api.Route, 0, 3)}
	for _, a := range edges.Samples() {
		for n := range 130 {
			l := edges.Chain(a)[:n]
			var comes, goes []delta.Change
			for _, r := range l {
				comes = append(comes, delta.Change{Key: r.Prefix, Old: -1, New: r.Hop})
				goes = append(goes, delta.Change{Key: r.Prefix, Old: r.Hop, New: -1})
			}
			slices.SortFunc(comes, func(a, b delta.Change) int { return less(a.Key, b.Key) })
			slices.SortFunc(goes, func(a, b delta.Change) int { return less(a.Key, b.Key) })
			of(t, "P1901: the same twice", l, slices.Clone(l), nil)
			of(t, "P1901: the same list twice", l, l, nil)
			for _, e := range empty {
				of(t, "P1901: from nothing", e, l, comes)
				of(t, "P1901: to nothing", l, e, goes)
			}
		}
	}
}

// TestOfByHand has keys that come, go, turn and stay, in every order.
func TestOfByHand(t *testing.T) {
	from := []api.Route{edges.Route("0", 1), edges.Route("01", 2), edges.Route("011", 3), edges.Route("1", 4), edges.Route("11", 5)}
	to := []api.Route{edges.Route("", 6), edges.Route("01", 2), edges.Route("011", 9), edges.Route("10", 7), edges.Route("11", 0)}
	want := []delta.Change{
		change("", -1, 6), change("0", 1, -1), change("011", 3, 9),
		change("1", 4, -1), change("10", -1, 7), change("11", 5, 0),
	}
	back := []delta.Change{
		change("", 6, -1), change("0", -1, 1), change("011", 9, 3),
		change("1", -1, 4), change("10", 7, -1), change("11", 0, 5),
	}
	edges.Each(from, func(l []api.Route) {
		of(t, "P1901: by hand", l, to, want)
		of(t, "P1901: by hand, back", to, l, back)
	})
	edges.Each(to, func(l []api.Route) {
		of(t, "P1901: by hand", from, l, want)
		of(t, "P1901: by hand, back", l, from, back)
	})
}

// some lists the routes that number n tells: each of the prefixes is not there, or leads to one of two.
func some(n int) []api.Route {
	var out []api.Route
	for _, text := range []string{"11", "0", "", "00"} {
		if n%3 > 0 {
			out = append(out, edges.Route(text, n%3))
		}
		n /= 3
	}
	return out
}

// TestOfAllPairs has each set of four prefixes and two hops turn into each other one.
func TestOfAllPairs(t *testing.T) {
	for i := range 81 {
		for j := range 81 {
			from, to := some(i), some(j)
			of(t, "P1901: all pairs", from, to, plainOf(hopsOf(from), hopsOf(to)))
		}
	}
}

// TestOfSorts has prefixes that few bits tell apart, right and wrong ones, two of them alone and all, from either end.
func TestOfSorts(t *testing.T) {
	var l []api.Route
	for _, a := range edges.Samples() {
		for _, n := range edges.Lengths() {
			l = append(l, api.Route{Prefix: edges.First(a, n), Hop: len(l)})
		}
	}
	for _, p := range edges.Wrong() {
		l = append(l, api.Route{Prefix: p, Hop: len(l)})
	}
	back := slices.Clone(l)
	slices.Reverse(back)
	of(t, "P1901: all", l, nil, plainOf(hopsOf(l), nil))
	of(t, "P1901: all", nil, back, plainOf(nil, hopsOf(back)))
	of(t, "P1901: all", l[:60], back[:80], plainOf(hopsOf(l[:60]), hopsOf(back[:80])))
	for _, one := range l {
		for _, two := range l {
			from, to := []api.Route{one}, []api.Route{two}
			of(t, "P1901: one and one", from, to, plainOf(hopsOf(from), hopsOf(to)))
			both := []api.Route{one, two}
			of(t, "P1901: two and one", both, to, plainOf(hopsOf(both), hopsOf(to)))
			of(t, "P1901: one and two", from, both, plainOf(hopsOf(from), hopsOf(both)))
		}
	}
}

// TestOfTheLastOfOnePrefix has some prefixes several times, in every order.
func TestOfTheLastOfOnePrefix(t *testing.T) {
	l := []api.Route{edges.Route("01", 1), edges.Route("01", 2), edges.Route("01", 3), edges.Route("0", 4), edges.Route("0", 5), edges.Route("1", 6)}
	other := []api.Route{edges.Route("01", 3), edges.Route("01", 2), edges.Route("0", 4), edges.Route("1", 9), edges.Route("1", 6)}
	edges.Each(l, func(l []api.Route) {
		of(t, "P1901: several of one prefix", l, other, plainOf(hopsOf(l), hopsOf(other)))
		of(t, "P1901: several of one prefix", other, l, plainOf(hopsOf(other), hopsOf(l)))
	})
}

// TestOfAnyHop has each hop turn into each other one; one that leads to -1 is another thing than none.
func TestOfAnyHop(t *testing.T) {
	for _, one := range edges.Hops() {
		from := []api.Route{edges.Route("10", one)}
		of(t, "P1901: any hop goes", from, nil, []delta.Change{change("10", one, -1)})
		of(t, "P1901: any hop comes", nil, from, []delta.Change{change("10", -1, one)})
		for _, two := range edges.Hops() {
			var want []delta.Change
			if one != two {
				want = []delta.Change{change("10", one, two)}
			}
			of(t, "P1901: any hop", from, []api.Route{edges.Route("10", two)}, want)
		}
	}
}

// TestLevelByHand turns one route, with others around it, within it and beside it, in every order.
func TestLevelByHand(t *testing.T) {
	l := []api.Route{edges.Route("", 1), edges.Route("0", 2), edges.Route("01", 3), edges.Route("0110", 4), edges.Route("10", 5)}
	for _, x := range []struct {
		p              string
		hop, low, high int
		want           []delta.Change
	}{
		{"01", 7, 0, 3, []delta.Change{change("010", 3, 7), change("011", 3, 7)}},
		{"01", 7, 0, 4, []delta.Change{change("0100", 3, 7), change("0101", 3, 7), change("0111", 3, 7)}},
		{"01", 3, 0, 4, nil},
		{"01", -1, 0, 3, []delta.Change{change("010", 3, 2), change("011", 3, 2)}},
		{"01", -1, 1, 3, []delta.Change{change("010", 3, -1), change("011", 3, -1)}},
		{"01", -1, 1, 4, []delta.Change{change("0100", 3, -1), change("0101", 3, -1), change("0111", 3, -1)}},
		{"01", -1, 2, 4, nil},
		{"01", 7, 2, 4, nil},
		{"01", 7, 0, 1, nil},
		{"01", 7, 1, 2, []delta.Change{change("01", 3, 7)}},
		{"0", 7, 0, 2, []delta.Change{change("00", 2, 7)}},
		{"0", -1, -1, 2, []delta.Change{change("00", 2, 1)}},
		{"0", 1, -1, 2, []delta.Change{change("00", 2, 1)}},
		{"", -1, -1, 2, []delta.Change{change("11", 1, -1)}},
		{"", -9, -1, 0, []delta.Change{change("", 1, -1)}},
		{"", 0, -1, 1, []delta.Change{change("1", 1, 0)}},
		{"1", 5, 0, 2, []delta.Change{change("11", -1, 5)}},
		{"1", 1, -1, 2, nil},
		{"1", 6, -1, 2, []delta.Change{change("11", 1, 6)}},
		{"1", -1, -1, 2, nil},
		{"0111", 0, 2, 4, []delta.Change{change("0111", -1, 0)}},
		{"0111", 0, 1, 4, []delta.Change{change("0111", 3, 0)}},
		{"0111", 3, 1, 4, nil},
		{"0111", 3, 2, 4, []delta.Change{change("0111", -1, 3)}},
		{"0110", -1, 3, 5, []delta.Change{change("01100", 4, -1), change("01101", 4, -1)}},
		{"0110", -1, 0, 5, []delta.Change{change("01100", 4, 3), change("01101", 4, 3)}},
	} {
		edges.Each(l, func(l []api.Route) {
			level(t, "P1901: by hand", l, edges.Read(x.p), x.hop, x.low, x.high, x.want)
		})
	}
}

// TestLevelOfOne has one prefix of each length come to no other and go again, at each level near it: all its keys, or none where they are too many.
func TestLevelOfOne(t *testing.T) {
	for _, a := range edges.Samples() {
		for n := range 129 {
			l := []api.Route{{Prefix: edges.First(a, n), Hop: n}}
			for high := n - 2; high < n+11; high++ {
				comes := delta.Level(nil, edges.First(a, n), n, n-1, high)
				want := 0
				if high >= n && high <= 128 && high-n <= 8 {
					want = 1 << (high - n)
				}
				if len(comes) != want || !slices.Equal(comes, plainOf(nil, plainSet(l, n-1, high))) {
					t.Fatalf("P1901: %v comes to level %d with %d keys, want %d: %v", l, high, len(comes), want, comes)
				}
				level(t, "P1901: one goes", l, edges.First(a, n), -1, n-1, high, plainOf(plainSet(l, n-1, high), nil))
				level(t, "P1901: one stays", l, edges.First(a, n), n, n-1, high, nil)
				level(t, "P1901: one that isn't there goes", nil, edges.First(a, n), -1, n-1, high, nil)
				level(t, "P1901: one comes, not above low", nil, edges.First(a, n), n, n, high, nil)
			}
		}
	}
}

// TestLevelOfAChain turns each length near the level, with every length within every other.
func TestLevelOfAChain(t *testing.T) {
	for _, a := range edges.Samples()[4:] {
		l := edges.Chain(a)
		for _, high := range edges.Lengths() {
			for n := max(high-10, 0); n <= min(high+1, 128); n++ {
				for _, low := range []int{math.MinInt, -1, high - 9, n - 1, n, math.MaxInt} {
					for _, hop := range []int{-1, 0, n + 999, n + 1000} {
						level(t, "P1901: of a chain", l, edges.First(a, n), hop, low, high, plainLevel(l, edges.First(a, n), hop, low, high))
					}
					beside := edges.First(edges.Flip(a, max(n-1, 0)), n)
					level(t, "P1901: beside a chain", l, beside, 5, low, high, plainLevel(l, beside, 5, low, high))
				}
			}
		}
	}
}

// TestLevelOfTooMany turns routes that make too many keys, around ones that make some.
func TestLevelOfTooMany(t *testing.T) {
	l := []api.Route{edges.Route("", 1), edges.Route("0", 2), edges.Route("01", 3)}
	for _, x := range []struct {
		p         string
		hop, high int
		want      int
	}{
		{"", 7, 8, 128}, {"", -1, 8, 128}, {"", 7, 9, 0}, {"", -1, 9, 0},
		{"0", 7, 8, 64}, {"0", 7, 9, 128}, {"0", -1, 9, 128}, {"0", 7, 10, 0}, {"0", -1, 10, 0},
		{"01", 7, 10, 256}, {"01", -1, 10, 256}, {"01", 7, 11, 0}, {"01", -1, 11, 0},
		{"1", 7, 9, 256}, {"1", 7, 10, 0}, {"010", 7, 10, 128}, {"010", 7, 11, 256}, {"010", 7, 12, 0},
	} {
		edges.Each(l, func(l []api.Route) {
			got := delta.Level(l, edges.Read(x.p), x.hop, -1, x.high)
			if len(got) != x.want || !slices.Equal(got, plainLevel(l, edges.Read(x.p), x.hop, -1, x.high)) {
				t.Fatalf("P1901: %q to %d of %v at %d turns %d keys, want %d: %v", x.p, x.hop, l, x.high, len(got), x.want, got)
			}
		})
	}
}

// TestLevelOfSeveralOfOnePrefix has p several times, and others too: all of p are replaced, and all go.
func TestLevelOfSeveralOfOnePrefix(t *testing.T) {
	l := []api.Route{edges.Route("01", 1), edges.Route("01", 2), edges.Route("01", 3), edges.Route("0", 4), edges.Route("0", 5), edges.Route("011", 6)}
	edges.Each(l, func(l []api.Route) {
		last := hopsOf(l)
		zero, two := last[edges.Read("0")], last[edges.Read("01")]
		level(t, "P1901: p several times", l, edges.Read("01"), 9, 0, 3, []delta.Change{change("010", two, 9)})
		level(t, "P1901: p several times", l, edges.Read("01"), two, 0, 3, nil)
		level(t, "P1901: p several times, taken out", l, edges.Read("01"), -1, 1, 3, []delta.Change{change("010", two, -1)})
		level(t, "P1901: p several times, taken out", l, edges.Read("01"), -1, 0, 3, []delta.Change{change("010", two, zero)})
		level(t, "P1901: another several times", l, edges.Read("011"), -1, 0, 3, []delta.Change{change("011", 6, two)})
	})
}

// TestLevelOfAnyHop has each hop in the list and each as the one to turn to; what is below 0 takes p out.
func TestLevelOfAnyHop(t *testing.T) {
	for _, one := range edges.Hops() {
		l := []api.Route{edges.Route("10", one), edges.Route("1", 50)}
		for _, two := range append([]int{-2, math.MinInt + 1, math.MaxInt - 1}, edges.Hops()...) {
			want := []delta.Change{change("10", one, max(two, -1))}
			if two >= 0 && one == two {
				want = nil
			}
			level(t, "P1901: any hop", l, edges.Read("10"), two, 1, 2, want)
			want = []delta.Change{change("10", one, two)}
			if two < 0 {
				want[0].New = 50
			} else if one == two {
				want = nil
			}
			level(t, "P1901: any hop, with one around it", l, edges.Read("10"), two, 0, 2, want)
		}
	}
}

// TestLevelOfWildBounds has bounds that no length is, with routes of all lengths.
func TestLevelOfWildBounds(t *testing.T) {
	a := edges.Samples()[4]
	l := edges.Chain(a)
	for _, one := range edges.Wild() {
		for _, two := range append(edges.Lengths(), edges.Wild()...) {
			for _, n := range edges.Lengths() {
				for _, hop := range []int{-1, 5} {
					level(t, "P1901: a level of no such length", l, edges.First(a, n), hop, two, one, nil)
					level(t, "P1901: above no such length", l, edges.First(a, n), hop, one, two, plainLevel(l, edges.First(a, n), hop, one, two))
				}
			}
		}
	}
}

// TestLevelOfWrongPrefixes turns prefixes that are none, and has them among the routes: neither turns anything.
func TestLevelOfWrongPrefixes(t *testing.T) {
	for _, p := range edges.Wrong() {
		n := min(max(p.Len, 0), 128)
		right := edges.First(p.Addr, n)
		good := append(edges.Chain(p.Addr), api.Route{Prefix: right, Hop: 5})
		bad := append(slices.Clone(good), api.Route{Prefix: p, Hop: 9})
		for _, low := range []int{math.MinInt, p.Len - 1, -3, -1, 0, 60} {
			for _, high := range append([]int{p.Len, p.Len + 1}, edges.Lengths()...) {
				for _, hop := range []int{-1, 0, 9} {
					level(t, "P1901: a wrong p comes", good, p, hop, low, high, nil)
					level(t, "P1901: a wrong p turns", bad, p, hop, low, high, nil)
					want := plainLevel(good, right, hop, low, high)
					level(t, "P1901: with a wrong one in the list", bad, right, hop, low, high, want)
				}
			}
		}
	}
}

// story turns routes one after the other by numbers that follow from seed, and tells all that turned, or nothing where a plain form, or the keys that were there ahead, have it otherwise.
func story(seed uint64, at, n int) []delta.Change {
	c := edges.Chance(seed)
	a := edges.Samples()[c.Next(len(edges.Samples()))]
	low := at + c.Next(10) - 2
	high := low + c.Next(13) - 1
	var l []api.Route
	keys := map[api.Prefix]int{}
	out := []delta.Change{{Old: 1}}
	for range n {
		p, hop := c.Near(a, at), c.Next(40)-5
		if len(l) > 0 && c.Next(3) == 0 {
			p = l[c.Next(len(l))].Prefix
		}
		if c.Next(12) == 0 {
			p = edges.Wrong()[c.Next(len(edges.Wrong()))]
		}
		got := delta.Level(l, p, hop, low, high)
		if !slices.Equal(got, plainLevel(l, p, hop, low, high)) {
			return nil
		}
		l = turned(l, p, hop)
		for _, x := range got {
			keys[x.Key] = x.New
			if x.New < 0 {
				delete(keys, x.Key)
			}
		}
		if len(plainOf(keys, hopsOf(cover.Set(l, low, high)))) != 0 {
			return nil
		}
		out = append(out, got...)
	}
	return out
}

func TestAgainstAPlainForm(t *testing.T) {
	for _, at := range []int{0, 1, 20, 55, 58, 62, 64, 70, 112, 116, 120, 126} {
		for seed := range 40 {
			if story(uint64(seed*1000+at), at, 40) == nil {
				t.Errorf("P1901: routes near %d bits don't turn what the plain form has (seed %d)", at, seed)
			}
		}
	}
}

// TestManyRoutes has so many that asking each key of each other would not end in time.
func TestManyRoutes(t *testing.T) {
	const many = 1 << 16
	var from, to []api.Route
	for i := range many {
		// An odd factor turns the numbers about, and leaves none out.
		p := api.Prefix{Addr: api.Addr{Hi: uint64(i*4051%many) << 48}, Len: 16}
		from = append(from, api.Route{Prefix: p, Hop: i})
		to = append(to, api.Route{Prefix: p, Hop: i + i%2})
	}
	got := delta.Of(from, to)
	if len(got) != many/2 {
		t.Fatalf("P1901: Of many has %d keys, want %d", len(got), many/2)
	}
	for i, x := range got {
		if x.Key.Addr.Hi>>49 != uint64(i) || x.New != x.Old+1 || from[x.Old].Prefix != x.Key {
			t.Fatalf("P1901: change %d of many is %v", i, x)
		}
	}
	for i := range 200 {
		p := from[i*300].Prefix
		level(t, "P1901: one of many", from, p, many, 15, 16, []delta.Change{{Key: p, Old: i * 300, New: many}})
	}
}

// TestWhatIsHandedInStays has lists with spare room, and pieces of a greater one.
func TestWhatIsHandedInStays(t *testing.T) {
	whole := edges.Chain(edges.Samples()[5])
	slices.Reverse(whole)
	whole = append(whole, whole...)
	was := slices.Clone(whole)
	for i := range whole {
		for _, l := range [][]api.Route{whole[:i], whole[i:], whole[i/2 : i]} {
			delta.Of(l, whole[i/3:i])
			delta.Of(whole[i/3:i], l)
			for _, high := range []int{8, 64, 128} {
				for _, hop := range []int{-1, 3, high + 1000} {
					delta.Level(l, edges.First(edges.Samples()[5], high), hop, high-9, high)
					delta.Level(l, edges.First(edges.Samples()[5], high-3), hop, high-9, high)
					delta.Level(l, edges.First(edges.Samples()[1], high), hop, high-9, high)
				}
			}
			if !slices.Equal(whole, was) {
				t.Fatalf("P1902: a list of %d was turned, or what is beside it", len(l))
			}
		}
	}
}

// TestWhatIsAnsweredIsNew turns answers, and lists that were handed in, with their spare room: neither is seen in the other, nor in another answer.
func TestWhatIsAnsweredIsNew(t *testing.T) {
	for _, n := range edges.Lengths() {
		l := edges.Chain(edges.Samples()[5])
		to := append(edges.Chain(edges.Samples()[4]), l[n])
		was, is := slices.Clone(l), slices.Clone(to)
		p := edges.First(edges.Samples()[5], n)
		turns, differs := plainLevel(l, p, 3, n-1, n), plainOf(hopsOf(l), hopsOf(to))
		edges.Fill(delta.Level(l, p, 3, n-1, n), change("1111", 999, 0))
		edges.Fill(delta.Of(l, to), change("1111", 999, 0))
		level(t, "P1902: behind answers that were turned", l, p, 3, n-1, n, turns)
		of(t, "P1902: behind answers that were turned", l, to, differs)
		one, two := delta.Level(l, p, 3, n-1, n), delta.Of(l, to)
		edges.Fill(l, edges.Route("1111", 999))
		edges.Fill(to, edges.Route("1111", 999))
		if !slices.Equal(one, turns) || !slices.Equal(two, differs) {
			t.Fatalf("P1902: a list that was turned is seen in %v or %v", one, two)
		}
		level(t, "P1902: behind lists that were turned", was, p, 3, n-1, n, turns)
		of(t, "P1902: behind lists that were turned", was, is, differs)
	}
}

// TestAnswersHangOnArgumentsAlone has many at once, all of them on the same lists.
func TestAnswersHangOnArgumentsAlone(t *testing.T) {
	l, to := edges.Chain(edges.Samples()[4]), edges.Chain(edges.Samples()[5])
	p := edges.First(edges.Samples()[4], 64)
	want, turns, differs := story(5, 58, 40), plainLevel(l, p, 3, 60, 66), plainOf(hopsOf(l), hopsOf(to))
	again := make([][]delta.Change, 8)
	one := make([][]delta.Change, len(again))
	two := make([][]delta.Change, len(again))
	var wait sync.WaitGroup
	for i := range again {
		wait.Go(func() {
			again[i] = story(5, 58, 40)
			one[i] = delta.Level(l, p, 3, 60, 66)
			two[i] = delta.Of(l, to)
		})
	}
	wait.Wait()
	for i := range again {
		if want == nil || !slices.Equal(again[i], want) || !slices.Equal(one[i], turns) || !slices.Equal(two[i], differs) {
			t.Fatal("P1902: the same was told, another was answered")
		}
	}
}
