package trie_test

import (
	"math"
	"slices"
	"sync"
	"testing"

	"flocculus/api"
	"flocculus/edges"
	"flocculus/trie"
)

const ones = math.MaxUint64

// samples are addresses whose bits turn at both ends, at the edge of the words, often and never.
var samples = []api.Addr{
	{},
	{Hi: ones, Lo: ones},
	{Hi: 1, Lo: 1 << 63},
	{Hi: ones},
	{Lo: ones},
	{Hi: 0xAAAAAAAAAAAAAAAA, Lo: 0x5555555555555555},
	{Hi: 0x20010DB885A30000, Lo: 0x00008A2E03707334},
}

// wrong are prefixes that are not Right: lengths that no address has, and bits on behind the length.
var wrong = []api.Prefix{
	{Len: -1},
	{Len: -128},
	{Len: 129},
	{Len: 256},
	{Len: 1 << 32},
	{Len: math.MinInt},
	{Len: math.MaxInt},
	{Addr: api.Addr{Hi: ones, Lo: ones}, Len: 129},
	{Addr: api.Addr{Lo: 1}},
	{Addr: api.Addr{Hi: 1 << 63}},
	{Addr: api.Addr{Hi: 1}, Len: 63},
	{Addr: api.Addr{Lo: 1 << 63}, Len: 64},
	{Addr: api.Addr{Lo: 1}, Len: 127},
	{Addr: api.Addr{Hi: ones, Lo: ones}, Len: 127},
	{Addr: api.Addr{Hi: 10<<56 | 1}, Len: 8},
}

// hops are numbers that a route can lead to: any.
var hops = []int{0, 1, -1, 7, 300, math.MaxInt, math.MinInt}

// bounds are lengths above which, or up to which, a cover is asked for.
var bounds = []int{math.MinInt, -1 << 32, -2, -1, 0, 1, 2, 7, 8, 31, 32, 63, 64, 65, 126, 127, 128, 129, 1 << 32, math.MaxInt - 1, math.MaxInt}

// bit is bit i of a.
func bit(a api.Addr, i int) uint64 {
	if i < 64 {
		return a.Hi >> (63 - i) & 1
	}
	return a.Lo >> (127 - i) & 1
}

// flip turns bit i of a round.
func flip(a api.Addr, i int) api.Addr {
	if i < 64 {
		a.Hi ^= 1 << (63 - i)
	} else {
		a.Lo ^= 1 << (127 - i)
	}
	return a
}

// first is the prefix of the first n bits of a.
func first(a api.Addr, n int) api.Prefix {
	for i := n; i < 128; i++ {
		if bit(a, i) == 1 {
			a = flip(a, i)
		}
	}
	return api.Prefix{Addr: a, Len: n}
}

// plain is a list of routes, one of each prefix: the form against which a trie is held.
type plain []api.Route

func (l plain) at(p api.Prefix) int {
	return slices.IndexFunc(l, func(r api.Route) bool { return r.Prefix == p })
}

func (l plain) get(p api.Prefix) (int, bool) {
	i := l.at(p)
	if i < 0 {
		return 0, false
	}
	return l[i].Hop, true
}

func (l *plain) put(p api.Prefix, hop int) (int, bool) {
	was, had := l.delete(p)
	*l = append(*l, api.Route{Prefix: p, Hop: hop})
	return was, had
}

func (l *plain) delete(p api.Prefix) (int, bool) {
	was, had := l.get(p)
	if had {
		i := l.at(p)
		*l = slices.Delete(*l, i, i+1)
	}
	return was, had
}

func (l plain) cover(p api.Prefix, low, high int) (api.Route, bool) {
	best, found := api.Route{}, false
	for _, r := range l {
		n := r.Prefix.Len
		if n > low && n <= high && n <= p.Len && first(p.Addr, n) == r.Prefix && (!found || n > best.Prefix.Len) {
			best, found = r, true
		}
	}
	return best, found
}

// answer is what a call said of one hop.
type answer struct {
	hop int
	ok  bool
}

func said(hop int, ok bool) answer {
	return answer{hop, ok}
}

// found is what a call said of one route.
type found struct {
	route api.Route
	ok    bool
}

func told(r api.Route, ok bool) found {
	return found{r, ok}
}

// differs fails the test where x does not have what want has, asked for that and for asked.
func differs(t *testing.T, what string, x *trie.Trie, want plain, asked ...api.Prefix) {
	t.Helper()
	if got := x.Len(); got != len(want) {
		t.Fatalf("%s: Len is %d, want %d", what, got, len(want))
	}
	for _, r := range want {
		asked = append(asked, r.Prefix)
	}
	for _, p := range asked {
		if got, want := said(x.Get(p)), said(want.get(p)); got != want {
			t.Fatalf("%s: Get(%v) is %v, want %v", what, p, got, want)
		}
		if got, want := told(x.Longest(p.Addr)), told(want.cover(first(p.Addr, 128), -1, 128)); got != want {
			t.Fatalf("%s: Longest(%v) is %v, want %v", what, p.Addr, got, want)
		}
		if got, want := told(x.Cover(p, -1, 128)), told(want.cover(p, -1, 128)); got != want {
			t.Fatalf("%s: Cover(%v) is %v, want %v", what, p, got, want)
		}
	}
}

// same fails the test where x does not have as many routes as want, or has another longest one of a.
func same(t *testing.T, what string, x *trie.Trie, want plain, a api.Addr) {
	t.Helper()
	got, longest := told(x.Longest(a)), told(want.cover(first(a, 128), -1, 128))
	if got != longest || x.Len() != len(want) {
		t.Fatalf("%s: Longest(%v) is %v of %d, want %v of %d", what, a, got, x.Len(), longest, len(want))
	}
}

// put gives p the hop in both, and fails the test where they answer otherwise.
func put(t *testing.T, x *trie.Trie, want *plain, p api.Prefix, hop int) {
	t.Helper()
	if got, was := said(x.Put(p, hop)), said(want.put(p, hop)); got != was {
		t.Fatalf("P1401: Put(%v) is %v, want %v", p, got, was)
	}
}

// drop takes p out of both, and fails the test where they answer otherwise.
func drop(t *testing.T, x *trie.Trie, want *plain, p api.Prefix) {
	t.Helper()
	if got, was := said(x.Delete(p)), said(want.delete(p)); got != was {
		t.Fatalf("P1401: Delete(%v) is %v, want %v", p, got, was)
	}
}

// chain has every prefix of a, each with its length and 1,000 as hop.
func chain(a api.Addr) (*trie.Trie, plain) {
	x, want := &trie.Trie{}, plain{}
	for n := range 129 {
		x.Put(first(a, n), 1000+n)
		want.put(first(a, n), 1000+n)
	}
	return x, want
}

func TestTheZeroValueIsEmpty(t *testing.T) {
	x := &trie.Trie{}
	for _, a := range samples {
		for n := range 129 {
			differs(t, "P1401: a new one", x, nil, first(a, n))
			drop(t, x, &plain{}, first(a, n))
		}
	}
	differs(t, "P1401: a new one that was asked to Delete", x, nil)
}

// TestOneRoute has each length of each sample alone, and asks for it, and for what differs from it in one bit or in its length.
func TestOneRoute(t *testing.T) {
	for _, a := range samples {
		for n := range 129 {
			x, want := &trie.Trie{}, plain{}
			put(t, x, &want, first(a, n), 5)
			for i := range 128 {
				differs(t, "P1401: one route", x, want, first(flip(a, i), 128), first(flip(a, i), n), first(a, i))
			}
			drop(t, x, &want, first(a, n))
			differs(t, "P1401: one route that was taken out", x, nil, first(a, n))
		}
	}
}

func TestAnyHop(t *testing.T) {
	for _, n := range []int{0, 8, 64, 128} {
		x, want := &trie.Trie{}, plain{}
		p := first(samples[5], n)
		for _, hop := range hops {
			put(t, x, &want, p, hop)
			differs(t, "P1401: the hop that was put last", x, want)
			put(t, x, &want, p, hop)
			differs(t, "P1401: the same hop again", x, want)
		}
		for _, hop := range hops {
			put(t, x, &want, p, hop)
			drop(t, x, &want, p)
			drop(t, x, &want, p)
			differs(t, "P1401: a hop that was taken out", x, nil, p)
		}
	}
}

// TestAChain leaves it, in turn, at every bit.
func TestAChain(t *testing.T) {
	for _, a := range samples {
		x, want := chain(a)
		differs(t, "P1401: all prefixes of an address", x, want)
		for i := range 128 {
			r, ok := x.Longest(flip(a, i))
			if !ok || r != (api.Route{Prefix: first(a, i), Hop: 1000 + i}) {
				t.Fatalf("P1401: Longest of what leaves at bit %d is %v, %v", i, r, ok)
			}
		}
	}
}

// TestAChainWithoutOne takes each of its routes out, which those longer and shorter must outlive, and puts it back.
func TestAChainWithoutOne(t *testing.T) {
	a := samples[5]
	x, want := chain(a)
	for n := range 129 {
		drop(t, x, &want, first(a, n))
		differs(t, "P1401: a chain without one", x, want, first(a, n))
		put(t, x, &want, first(a, n), 1000+n)
	}
	differs(t, "P1401: a chain with all again", x, want)
}

// TestAChainFromEitherEnd puts it, and takes it out, from the longest on and from the shortest on.
func TestAChainFromEitherEnd(t *testing.T) {
	for _, a := range samples {
		up := func(i int) int { return i }
		down := func(i int) int { return 128 - i }
		for _, way := range [][2]func(int) int{{up, up}, {up, down}, {down, up}, {down, down}} {
			x, want := &trie.Trie{}, plain{}
			for i := range 129 {
				put(t, x, &want, first(a, way[0](i)), i)
				same(t, "P1401: a chain that grows", x, want, a)
			}
			for i := range 129 {
				drop(t, x, &want, first(a, way[1](i)))
				same(t, "P1401: a chain that goes", x, want, a)
			}
			differs(t, "P1401: a chain that went", x, nil, first(a, 0), first(a, 64), first(a, 128))
		}
	}
}

// TestTwins has, for each length, the two prefixes that only their last bit tells apart.
func TestTwins(t *testing.T) {
	for _, a := range samples {
		for n := 1; n <= 128; n++ {
			one, two, above := first(a, n), first(flip(a, n-1), n), first(a, n-1)
			x, want := &trie.Trie{}, plain{}
			put(t, x, &want, one, 1)
			differs(t, "P1401: one of twins", x, want, two, above)
			put(t, x, &want, two, 2)
			differs(t, "P1401: twins", x, want, above)
			put(t, x, &want, above, 3)
			differs(t, "P1401: twins, and what both begin with", x, want)
			drop(t, x, &want, above)
			differs(t, "P1401: twins again", x, want, above)
			drop(t, x, &want, one)
			differs(t, "P1401: the other of twins", x, want, one, above)
			drop(t, x, &want, two)
			differs(t, "P1401: no twin", x, nil, one, two, above)
		}
	}
}

// TestAFork has, for each bit, two prefixes of other lengths that part there, and what stands at their fork, or near it.
func TestAFork(t *testing.T) {
	for _, a := range samples {
		for i := range 126 {
			x, want := &trie.Trie{}, plain{}
			put(t, x, &want, first(a, 127), 1)
			put(t, x, &want, first(flip(a, i), i+2), 2)
			differs(t, "P1401: a fork", x, want, first(a, i), first(a, i+1))
			near := []int{max(0, i-1), i, i + 1}
			for _, n := range near {
				put(t, x, &want, first(a, n), 10+n)
				differs(t, "P1401: what is near a fork", x, want)
			}
			for _, n := range near {
				drop(t, x, &want, first(a, n))
				differs(t, "P1401: what was near a fork", x, want, first(a, n))
			}
		}
	}
}

// TestEveryOrder puts a small bush of routes in every order, and takes it out in the same one.
func TestEveryOrder(t *testing.T) {
	bush := []api.Prefix{
		{},
		first(api.Addr{Hi: 0x80 << 56}, 1),
		first(api.Addr{Hi: 0xA0 << 56}, 3),
		first(api.Addr{Hi: 0xA8 << 56}, 5),
		first(api.Addr{Hi: 0xB8 << 56}, 5),
		first(api.Addr{Hi: 0x10 << 56}, 4),
	}
	orders := 0
	edges.Each(bush, func(order []api.Prefix) {
		orders++
		x, want := &trie.Trie{}, plain{}
		for _, p := range order {
			put(t, x, &want, p, slices.Index(bush, p))
			differs(t, "P1401: a bush that grows", x, want, bush...)
		}
		for _, p := range order {
			drop(t, x, &want, p)
			differs(t, "P1401: a bush that goes", x, want, bush...)
		}
	})
	if orders != 720 {
		t.Fatalf("%d orders of 6", orders)
	}
}

// TestCoverOfAChain asks for every pair of bounds that an edge has.
func TestCoverOfAChain(t *testing.T) {
	for _, a := range samples {
		x, want := chain(a)
		for _, n := range []int{0, 1, 8, 63, 64, 65, 127, 128} {
			for _, low := range bounds {
				for _, high := range bounds {
					got, want := told(x.Cover(first(a, n), low, high)), told(want.cover(first(a, n), low, high))
					if got != want {
						t.Fatalf("P1401: Cover(%d bits, %d, %d) is %v, want %v", n, low, high, got, want)
					}
				}
			}
		}
	}
}

// TestCoverOfFew asks for every length and every pair of bounds near the lengths that are there.
func TestCoverOfFew(t *testing.T) {
	a := samples[6]
	x, want := &trie.Trie{}, plain{}
	for _, n := range []int{0, 3, 4, 9} {
		put(t, x, &want, first(a, n), n)
	}
	put(t, x, &want, first(flip(a, 4), 6), 20)
	put(t, x, &want, first(flip(a, 8), 9), 30)
	for n := range 13 {
		for _, p := range []api.Prefix{first(a, n), first(flip(a, 4), n), first(flip(a, 8), n), first(flip(a, 3), n)} {
			for low := -2; low < 13; low++ {
				for high := -2; high < 13; high++ {
					got, want := told(x.Cover(p, low, high)), told(want.cover(p, low, high))
					if got != want {
						t.Fatalf("P1401: Cover(%v, %d, %d) is %v, want %v", p, low, high, got, want)
					}
				}
			}
		}
	}
}

// TestWrongPrefixes asks a trie in which every prefix that a wrong one could be taken for has a route.
func TestWrongPrefixes(t *testing.T) {
	x, want := &trie.Trie{}, plain{}
	for _, p := range wrong {
		for n := range 129 {
			x.Put(first(p.Addr, n), 3)
			want.put(first(p.Addr, n), 3)
		}
	}
	for _, x := range []*trie.Trie{x, {}} {
		size := x.Len()
		for _, p := range wrong {
			if got := said(x.Put(p, 5)); got != (answer{}) {
				t.Errorf("P1401: Put(%v) is %v", p, got)
			}
			if got := said(x.Get(p)); got != (answer{}) {
				t.Errorf("P1401: Get(%v) is %v", p, got)
			}
			if got := said(x.Delete(p)); got != (answer{}) {
				t.Errorf("P1401: Delete(%v) is %v", p, got)
			}
			for _, b := range [][2]int{{-1, 128}, {math.MinInt, math.MaxInt}, {p.Len - 1, p.Len}, {0, 64}} {
				if got := told(x.Cover(p, b[0], b[1])); got != (found{}) {
					t.Errorf("P1401: Cover(%v, %v) is %v", p, b, got)
				}
			}
			if x.Len() != size {
				t.Fatalf("P1401: %v turned Len from %d to %d", p, size, x.Len())
			}
		}
	}
	differs(t, "P1401: behind wrong prefixes", x, want)
}

// story turns a trie by numbers that follow from seed, and tells all that was answered, or nothing where a plain form has it otherwise.
func story(seed uint64, most, steps int) []found {
	x, want := &trie.Trie{}, plain{}
	next := func(n int) int {
		seed = seed*6364136223846793005 + 1442695040888963407
		return int(seed >> 33 % uint64(n))
	}
	some := func() api.Prefix {
		a := samples[next(len(samples))]
		for range next(3) {
			a = flip(a, next(most+1)%128)
		}
		return first(a, next(most+1))
	}
	var out []found
	for range steps {
		p, hop := some(), next(50)-10
		got, was := answer{}, answer{}
		if next(5) < 3 {
			got, was = said(x.Put(p, hop)), said(want.put(p, hop))
		} else {
			got, was = said(x.Delete(p)), said(want.delete(p))
		}
		q, low, high := some(), next(most+3)-2, next(most+3)-1
		one, two := told(x.Longest(q.Addr)), told(x.Cover(q, low, high))
		if got != was || said(x.Get(q)) != said(want.get(q)) || x.Len() != len(want) ||
			one != told(want.cover(first(q.Addr, 128), -1, 128)) || two != told(want.cover(q, low, high)) {
			return nil
		}
		out = append(out, found{api.Route{Prefix: p, Hop: got.hop}, got.ok}, one, two)
	}
	return out
}

func TestAgainstAPlainForm(t *testing.T) {
	for _, most := range []int{0, 1, 2, 3, 5, 8, 13, 32, 64, 65, 128} {
		for seed := range uint64(4) {
			if story(seed, most, 600) == nil {
				t.Errorf("P1401: one of %d bits has not had what a plain one has", most)
			}
		}
	}
}

func TestManyRoutes(t *testing.T) {
	const many = 1 << 14
	x := &trie.Trie{}
	at := func(i int) api.Prefix { return first(api.Addr{Hi: uint64(i) << 50, Lo: uint64(i) << 40}, 128) }
	for i := range many {
		if got := said(x.Put(at(i), i)); got != (answer{}) || x.Len() != i+1 {
			t.Fatalf("P1401: Put of route %d is %v, and leads to %d", i, got, x.Len())
		}
	}
	for i := range many {
		if got := told(x.Longest(at(i).Addr)); got != (found{api.Route{Prefix: at(i), Hop: i}, true}) {
			t.Fatalf("P1401: Longest of route %d of %d is %v", i, many, got)
		}
	}
	for i := range many {
		if got := said(x.Delete(at(i))); got != (answer{i, true}) || x.Len() != many-i-1 {
			t.Fatalf("P1401: Delete of route %d is %v, and leaves %d", i, got, x.Len())
		}
	}
}

func TestNil(t *testing.T) {
	var none *trie.Trie
	asked := slices.Clone(wrong)
	for _, a := range samples {
		asked = append(asked, first(a, 0), first(a, 64), first(a, 128))
	}
	for _, p := range asked {
		if said(none.Put(p, 1)) != (answer{}) || said(none.Get(p)) != (answer{}) || said(none.Delete(p)) != (answer{}) {
			t.Errorf("P1402: %v of a nil one: %v, %v, %v", p, said(none.Put(p, 1)), said(none.Get(p)), said(none.Delete(p)))
		}
		if told(none.Longest(p.Addr)) != (found{}) || told(none.Cover(p, -1, 128)) != (found{}) || none.Len() != 0 {
			t.Errorf("P1402: %v of a nil one: %v, %v, %d", p, told(none.Longest(p.Addr)), told(none.Cover(p, -1, 128)), none.Len())
		}
	}
}

func TestTwoHaveNothingInCommon(t *testing.T) {
	a := samples[6]
	one, wantOne := chain(a)
	two, wantTwo := &trie.Trie{}, plain{}
	for n := 0; n <= 128; n += 16 {
		put(t, two, &wantTwo, first(a, n), 7)
	}
	differs(t, "P1402: one of two", one, wantOne)
	differs(t, "P1402: the other of two", two, wantTwo, first(a, 1), first(a, 127))
	for n := range 129 {
		drop(t, one, &wantOne, first(a, n))
		differs(t, "P1402: the other of two, of which one goes", two, wantTwo)
	}
	differs(t, "P1402: one that went", one, nil, first(a, 64))
	differs(t, "P1402: a third one", &trie.Trie{}, nil, first(a, 64))
}

// TestACopyIsOneOfItsOwn turns a trie and what was a copy of it, in every way in which the one could be seen in the other.
func TestACopyIsOneOfItsOwn(t *testing.T) {
	a := samples[6]
	turns := []func(*trie.Trie, *plain, api.Prefix){
		func(x *trie.Trie, want *plain, p api.Prefix) { put(t, x, want, p, 9) },
		func(x *trie.Trie, want *plain, p api.Prefix) { drop(t, x, want, p) },
	}
	for _, turn := range turns {
		for n := range 129 {
			x, want := &trie.Trie{}, plain{}
			for m := 0; m <= 128; m += 8 {
				put(t, x, &want, first(a, m), m)
				put(t, x, &want, first(flip(a, max(0, m-3)), m), m)
			}
			y := *x
			wantY := slices.Clone(want)
			turn(x, &want, first(a, n))
			differs(t, "P1402: one with a copy", x, want, first(a, n))
			differs(t, "P1402: its copy", &y, wantY, first(a, n))
			turn(&y, &wantY, first(a, 128-n))
			differs(t, "P1402: one whose copy was turned", x, want, first(a, 128-n))
			differs(t, "P1402: the copy", &y, wantY, first(a, 128-n))
		}
	}
}

func TestAskingTurnsNothing(t *testing.T) {
	x, want := chain(samples[5])
	for _, a := range samples {
		for n := range 129 {
			x.Get(first(a, n))
			x.Longest(a)
			x.Cover(first(a, n), n-5, n+5)
		}
	}
	differs(t, "P1402: asked again", x, want)
}

func TestAnswersHangOnWhatWasToldAlone(t *testing.T) {
	want := story(5, 20, 1000)
	again := make([][]found, 8)
	var wait sync.WaitGroup
	for i := range again {
		wait.Go(func() { again[i] = story(5, 20, 1000) })
	}
	wait.Wait()
	for _, got := range again {
		if want == nil || !slices.Equal(got, want) {
			t.Fatal("P1402: the same was told, another was answered")
		}
	}
}
