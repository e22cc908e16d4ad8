package level_test

import (
	"math"
	"slices"
	"sync"
	"testing"

	"flocculus/addr"
	"flocculus/api"
	"flocculus/cover"
	"flocculus/delta"
	"flocculus/edges"
	"flocculus/filter"
	"flocculus/level"
)

// seen is what Look answers.
type seen struct {
	hop        int
	there, may bool
}

func look(l *level.Level, a api.Addr) seen {
	hop, there, may := l.Look(a)
	return seen{hop, there, may}
}

// change has p turn to hop.
func change(p api.Prefix, hop int) delta.Change {
	return delta.Change{Key: p, Old: -1, New: hop}
}

// newLevel makes one that there can be.
func newLevel(t *testing.T, n int, seed uint64, hashes, bits, buckets int) *level.Level {
	t.Helper()
	l, e := level.New(n, seed, hashes, bits, buckets)
	if l == nil || e != api.OK {
		t.Fatalf("P2101: New(%d, %#x, %d, %d, %d): %v, %d", n, seed, hashes, bits, buckets, l, e)
	}
	return l
}

// tight makes a level whose filter has one bit: a key may be there if any is, as the filter was told.
func tight(t *testing.T, n int) *level.Level {
	t.Helper()
	return newLevel(t, n, 7, 1, 1, 1)
}

// wide makes a level whose filter takes few keys for each other.
func wide(t *testing.T, n int) *level.Level {
	t.Helper()
	return newLevel(t, n, 7, 4, api.MaxBits, 8)
}

// holds fails the test where l has other keys, or doesn't find them, whatever bits an address has behind them.
func holds(t *testing.T, what string, l *level.Level, n int, want ...api.Route) {
	t.Helper()
	if got := l.Keys(); !slices.Equal(got, want) || l.Bits() != n {
		t.Fatalf("%s: %d bits, Keys %v, want %d, %v", what, l.Bits(), got, n, want)
	}
	for _, r := range want {
		for _, rest := range edges.Samples() {
			a := joined(r.Prefix, rest)
			if got := look(l, a); got != (seen{r.Hop, true, true}) {
				t.Fatalf("%s: Look(%v) is %v, and %v is there", what, a, got, r)
			}
		}
	}
}

// joined has the bits of p, and those of rest behind them.
func joined(p api.Prefix, rest api.Addr) api.Addr {
	own := addr.Cut(rest, p.Len)
	return api.Addr{Hi: p.Addr.Hi | rest.Hi&^own.Hi, Lo: p.Addr.Lo | rest.Lo&^own.Lo}
}

// plain is a level by the chapter's own words: a filter, and keys in a map.
type plain struct {
	n    int
	f    *filter.Filter
	keys map[api.Prefix]int
}

func (w *plain) turn(c delta.Change) {
	_, was := w.keys[c.Key]
	switch {
	case c.Key.Len != w.n:
	case c.New >= 0:
		w.keys[c.Key] = c.New
		if !was {
			w.f.Add(c.Key)
		}
	case was:
		delete(w.keys, c.Key)
		w.f.Remove(c.Key)
	}
}

func (w *plain) look(a api.Addr) seen {
	p := edges.First(a, w.n)
	if !w.f.May(p) {
		return seen{}
	}
	hop, there := w.keys[p]
	return seen{hop, there, true}
}

func (w *plain) all() []api.Route {
	var out []api.Route
	for p, hop := range w.keys {
		out = append(out, api.Route{Prefix: p, Hop: hop})
	}
	return byLess(out)
}

// byLess has l in the order of addr.Less.
func byLess(l []api.Route) []api.Route {
	slices.SortFunc(l, func(a, b api.Route) int {
		if addr.Less(a.Prefix, b.Prefix) {
			return -1
		}
		return 1
	})
	return l
}

func TestNewOfWhatThereCanBe(t *testing.T) {
	for n := 1; n <= 128; n++ {
		for _, x := range [][3]int{{1, 1, 1}, {16, 1, 1}, {1, api.MaxBits, 1}, {4, 100, 8}, {16, 65, 3}} {
			for _, seed := range []uint64{0, 7, 1 << 63, math.MaxUint64} {
				l := newLevel(t, n, seed, x[0], x[1], x[2])
				holds(t, "P2101: a new one", l, n)
				for _, a := range edges.Samples() {
					if got := look(l, a); got != (seen{}) {
						t.Fatalf("P2101: Look(%v) in a new one of %d bits is %v", a, n, got)
					}
				}
			}
		}
	}
	holds(t, "P2101: the most of all", newLevel(t, 128, math.MaxUint64, 16, api.MaxBits, api.MaxBits), 128)
}

// TestNewRefuses has each number that can't be beside others that can, and beside others that can't.
func TestNewRefuses(t *testing.T) {
	far := []int{0, -1, -8, math.MinInt32, math.MinInt, math.MinInt + 1, math.MaxInt32, 1 << 32, 1<<32 + 1, 1 << 62, math.MaxInt}
	lists := [4][]int{
		{8, 1, 128},
		{3, 1, 16},
		{100, 1, api.MaxBits},
		{4, 1, api.MaxBits},
	}
	over := [4][]int{{129, 130, 256}, {17, 18, 32}, {api.MaxBits + 1, 2 * api.MaxBits}, {api.MaxBits + 1, 2 * api.MaxBits}}
	for wrong := range lists {
		for _, bad := range append(over[wrong], far...) {
			for other := range lists {
				x := [4]int{8, 3, 100, 4}
				for _, y := range append(append(lists[other], over[other]...), far...) {
					x[other], x[wrong] = y, bad
					if l, e := level.New(x[0], 7, x[1], x[2], x[3]); l != nil || e != api.ErrArg {
						t.Fatalf("P2101: New of %v: nil is %v, error %d, want nil and %d", x, l == nil, e, api.ErrArg)
					}
				}
			}
		}
	}
}

func TestByHand(t *testing.T) {
	for _, l := range []*level.Level{tight(t, 2), wide(t, 2)} {
		l.Turn()
		holds(t, "P2101: nothing Turned", l, 2)
		l.Turn(change(edges.Read("10"), 5))
		holds(t, "P2101: a new key", l, 2, edges.Route("10", 5))
		l.Turn(change(edges.Read("00"), 6), change(edges.Read("11"), 0))
		holds(t, "P2101: two more", l, 2, edges.Route("00", 6), edges.Route("10", 5), edges.Route("11", 0))
		l.Turn(change(edges.Read("10"), 7))
		holds(t, "P2101: another hop", l, 2, edges.Route("00", 6), edges.Route("10", 7), edges.Route("11", 0))
		l.Turn(change(edges.Read("11"), -1))
		holds(t, "P2101: one gone", l, 2, edges.Route("00", 6), edges.Route("10", 7))
		l.Turn(change(edges.Read("11"), -1), change(edges.Read("01"), -1))
		holds(t, "P2101: gone what was not there", l, 2, edges.Route("00", 6), edges.Route("10", 7))
		l.Turn(change(edges.Read("00"), -1), change(edges.Read("10"), -1))
		holds(t, "P2101: all gone", l, 2)
		for _, text := range []string{"00", "01", "10", "11"} {
			if got := look(l, edges.Read(text).Addr); got != (seen{}) {
				t.Errorf("P2101: Look(%s) with all gone is %v", text, got)
			}
		}
		l.Turn(change(edges.Read("10"), 8))
		holds(t, "P2101: one there again", l, 2, edges.Route("10", 8))
	}
}

// TestOneByOne has one key turn several times in one Turn, in every order: the last one counts.
func TestOneByOne(t *testing.T) {
	p := edges.Read("101")
	edges.Each([]int{4, -1, 6, -7, 0}, func(hops []int) {
		for _, l := range []*level.Level{tight(t, 3), wide(t, 3)} {
			var c []delta.Change
			for _, hop := range hops {
				c = append(c, change(p, hop))
			}
			l.Turn(c...)
			if last := hops[4]; last < 0 {
				holds(t, "P2101: one key time and again", l, 3)
			} else {
				holds(t, "P2101: one key time and again", l, 3, api.Route{Prefix: p, Hop: last})
			}
			l.Turn(change(p, -1))
			if got := look(l, p.Addr); got != (seen{}) {
				t.Fatalf("P2101: Look of a key that turned to %v, and is gone, is %v", hops, got)
			}
		}
	})
}

// TestTheFilterCountsAKeyOnce has it told of a key that is there already, and of one that is not there: neither turns it.
func TestTheFilterCountsAKeyOnce(t *testing.T) {
	one, two := edges.Read("0110"), edges.Read("1001")
	l := tight(t, 4)
	for hop := range 40 {
		l.Turn(change(one, hop))
		if got := look(l, two.Addr); got != (seen{0, false, true}) {
			t.Fatalf("P2101: Look of what may be there, and is not, is %v", got)
		}
	}
	for range 40 {
		l.Turn(change(two, -1))
		holds(t, "P2101: gone what was not there", l, 4, api.Route{Prefix: one, Hop: 39})
	}
	l.Turn(change(one, -1))
	if got := look(l, one.Addr); got != (seen{}) {
		t.Fatalf("P2101: Look of a key that was there once, and is gone, is %v", got)
	}
	l.Turn(change(one, 1), change(two, 2), change(one, -1))
	holds(t, "P2101: one of two gone", l, 4, api.Route{Prefix: two, Hop: 2})
	if got := look(l, one.Addr); got != (seen{0, false, true}) {
		t.Fatalf("P2101: Look of one of two that is gone is %v", got)
	}
	l.Turn(change(two, -1))
	if got := look(l, two.Addr); got != (seen{}) {
		t.Fatalf("P2101: Look with both gone is %v", got)
	}
}

// TestACounterAtItsTop has as many keys as take one there, and all gone: the filter says of each that it may be there, and the table that it is not.
func TestACounterAtItsTop(t *testing.T) {
	for keys := 1; keys <= 17; keys++ {
		l := tight(t, 8)
		for i := range keys {
			l.Turn(change(api.Prefix{Addr: api.Addr{Hi: uint64(i) << 56}, Len: 8}, i))
		}
		for i := range keys {
			l.Turn(change(api.Prefix{Addr: api.Addr{Hi: uint64(i) << 56}, Len: 8}, -1))
		}
		holds(t, "P2101: all gone", l, 8)
		for i := range uint64(256) {
			if got := look(l, api.Addr{Hi: i << 56}); got != (seen{0, false, keys >= 15}) {
				t.Fatalf("P2101: Look(%d) after %d keys that are gone is %v", i, keys, got)
			}
		}
	}
}

// TestOtherLengths has keys of every length but the level's, and of lengths that none has: they turn nothing, in the filter neither.
func TestOtherLengths(t *testing.T) {
	for _, n := range edges.Lengths()[1:] {
		for _, a := range edges.Samples() {
			l := tight(t, n)
			for _, m := range slices.Concat(edges.Wild(), edges.Lengths(), []int{n - 1, n + 1, -n, n + 256, n + 1<<32}) {
				if m == n {
					continue
				}
				for _, q := range []api.Prefix{{Addr: a, Len: m}, edges.First(a, m), {Addr: addr.Cut(a, n), Len: m}} {
					l.Turn(change(q, 5))
					if got := look(l, a); got != (seen{}) || len(l.Keys()) != 0 {
						t.Fatalf("P2101: of %d bits, %v Turned: Look is %v, Keys %v", n, q, got, l.Keys())
					}
				}
			}
			own := api.Route{Prefix: edges.First(a, n), Hop: 3}
			l.Turn(change(api.Prefix{Len: n - 1}, 5), change(own.Prefix, 3), change(api.Prefix{Len: n + 1}, 5))
			holds(t, "P2101: beside other lengths", l, n, own)
			for _, m := range []int{-1, 0, n - 1, n + 1, 129} {
				l.Turn(change(edges.First(a, m), -1), change(api.Prefix{Addr: own.Prefix.Addr, Len: m}, -1))
			}
			holds(t, "P2101: other lengths gone", l, n, own)
		}
	}
}

// TestAnyNewAndOld has New at the edges of its type, and Old, which counts for nothing, at any.
func TestAnyNewAndOld(t *testing.T) {
	p := edges.Read("1100")
	for _, now := range append(edges.Hops(), -2, math.MinInt32, math.MaxInt32, 1<<32, -1<<32) {
		for _, old := range append(edges.Hops(), 12) {
			for _, there := range []bool{false, true} {
				l := tight(t, 4)
				if there {
					l.Turn(delta.Change{Key: p, Old: old, New: 12})
				}
				l.Turn(delta.Change{Key: p, Old: old, New: now})
				if now < 0 {
					holds(t, "P2101: New below 0", l, 4)
				} else {
					holds(t, "P2101: New from 0 on", l, 4, api.Route{Prefix: p, Hop: now})
				}
				if got := look(l, p.Addr); got.may != (now >= 0) {
					t.Fatalf("P2101: from %d to %d: Look is %v", old, now, got)
				}
			}
		}
	}
}

// TestLookTakesTheFirstBitsAlone turns each bit of an address: behind the key's bits none counts, and of them each does.
func TestLookTakesTheFirstBitsAlone(t *testing.T) {
	for n := 1; n <= 128; n++ {
		for _, a := range edges.Samples() {
			l := wide(t, n)
			l.Turn(change(edges.First(a, n), n))
			holds(t, "P2101: one key", l, n, api.Route{Prefix: edges.First(a, n), Hop: n})
			for i := range 128 {
				got := look(l, edges.Flip(a, i))
				if i >= n && got != (seen{n, true, true}) || i < n && (got.hop != 0 || got.there) {
					t.Fatalf("P2101: Look of %d bits, with bit %d turned, is %v", n, i, got)
				}
			}
		}
	}
}

// TestKeysThatAreNoPrefixes has keys of the level's length with a bit behind it: they are taken as they stand, and no address leads to them.
func TestKeysThatAreNoPrefixes(t *testing.T) {
	right, wrong := edges.Read("10110"), edges.Read("10110")
	wrong.Addr.Lo = 1
	l := wide(t, 5)
	l.Turn(change(wrong, 4))
	if got := l.Keys(); !slices.Equal(got, []api.Route{{Prefix: wrong, Hop: 4}}) {
		t.Fatalf("P2101: Keys with one that is no prefix: %v", got)
	}
	if got := look(l, wrong.Addr); got.there || got.hop != 0 {
		t.Fatalf("P2101: Look of one that is no prefix is %v", got)
	}
	l.Turn(change(right, 5))
	if got := l.Keys(); !slices.Equal(got, []api.Route{{Prefix: right, Hop: 5}, {Prefix: wrong, Hop: 4}}) {
		t.Fatalf("P2101: Keys with one that is no prefix beside one that is: %v", got)
	}
	l.Turn(change(wrong, -1))
	holds(t, "P2101: one that is no prefix gone", l, 5, api.Route{Prefix: right, Hop: 5})
}

// story turns a level and its plain form by numbers that follow from start, and holds one against the other at each step; it tells what was met, and no list where they differed.
func story(start uint64) (*level.Level, []seen) {
	c := edges.Chance(start)
	n, seed, hashes, bits, buckets := 1+c.Next(128), start*0x9E3779B97F4A7C15, 1+c.Next(16), 1+c.Next(300), 1+c.Next(4)
	l, e := level.New(n, seed, hashes, bits, buckets)
	f, _ := filter.New(seed, hashes, bits)
	w := &plain{n: n, f: f, keys: map[api.Prefix]int{}}
	x := edges.Samples()[c.Next(len(edges.Samples()))]
	at := max(0, n-8)
	var met []seen
	for range 80 {
		var turns []delta.Change
		for range c.Next(5) {
			p := c.Near(x, at)
			if c.Next(4) > 0 {
				p = edges.First(p.Addr, n)
			}
			turns = append(turns, delta.Change{Key: p, Old: c.Next(9) - 2, New: c.Next(12) - 6})
			w.turn(turns[len(turns)-1])
		}
		l.Turn(turns...)
		for range 4 {
			a := c.Near(x, at).Addr
			met = append(met, look(l, a))
			if met[len(met)-1] != w.look(a) {
				return l, nil
			}
		}
		if e != api.OK || l.Bits() != n || !slices.Equal(l.Keys(), w.all()) {
			return l, nil
		}
	}
	return l, met
}

func TestAgainstAPlainForm(t *testing.T) {
	there, may, not := 0, 0, 0
	for start := range uint64(500) {
		_, met := story(start)
		if met == nil {
			t.Errorf("P2101: start %d: it does otherwise than a plain one", start)
		}
		for _, s := range met {
			switch {
			case s.there:
				there++
			case s.may:
				may++
			default:
				not++
			}
		}
	}
	if there < 1000 || may < 1000 || not < 1000 {
		t.Errorf("P2101: of all that was asked for %d were there, %d may have been, %d not", there, may, not)
	}
}

// TestManyKeys has more than a table of one bucket holds, and half of them gone: all others are there, and the filter says no to some that are not.
func TestManyKeys(t *testing.T) {
	const keys = 3000
	l := newLevel(t, 32, 5, 3, api.MaxBits, 1)
	key := func(i int) api.Prefix { return api.Prefix{Addr: api.Addr{Hi: uint64(i) << 32}, Len: 32} }
	var want []api.Route
	for i := range keys {
		l.Turn(change(key(i), i))
		want = append(want, api.Route{Prefix: key(i), Hop: i})
	}
	holds(t, "P2101: many keys", l, 32, want...)
	half := slices.DeleteFunc(want, func(r api.Route) bool { return r.Hop%2 == 1 })
	var gone []delta.Change
	for i := 1; i < keys; i += 2 {
		gone = append(gone, change(key(i), -1))
	}
	l.Turn(gone...)
	holds(t, "P2101: half of many keys", l, 32, half...)
	may := 0
	for _, c := range gone {
		got := look(l, c.Key.Addr)
		if got.there || got.hop != 0 {
			t.Fatalf("P2101: Look of %v, which is gone, is %v", c.Key, got)
		}
		if got.may {
			may++
		}
	}
	if may > len(gone)/10 {
		t.Errorf("P2101: of %d that are gone %d may be there", len(gone), may)
	}
}

// TestTurnedByDelta has routes come and go, each told by delta.Level: always the keys are cover.Set of them, and an address leads where cover.Hop of its first bits does.
func TestTurnedByDelta(t *testing.T) {
	for start := range uint64(60) {
		c := edges.Chance(start)
		low := c.Next(120)
		high := low + 1 + c.Next(6)
		l := newLevel(t, high, start, 1+c.Next(4), 1+c.Next(400), 1+c.Next(4))
		x := edges.Samples()[c.Next(len(edges.Samples()))]
		var routes []api.Route
		for range 60 {
			p, hop := c.Near(x, max(0, low-2)), c.Next(9)-3
			l.Turn(delta.Level(routes, p, hop, low, high)...)
			routes = slices.DeleteFunc(routes, func(r api.Route) bool { return r.Prefix == p })
			if hop >= 0 {
				routes = byLess(append(routes, api.Route{Prefix: p, Hop: hop}))
			}
			holds(t, "P2101: Turned by delta", l, high, cover.Set(routes, low, high)...)
			a := c.Near(x, max(0, low-2)).Addr
			hop, there := cover.Hop(routes, edges.First(a, high), low)
			if got := look(l, a); got.hop != hop || got.there != there || there && !got.may {
				t.Fatalf("P2101: Look(%v) of levels %d and %d is %v, want %d, %v", a, low, high, got, hop, there)
			}
		}
	}
}

// TestNilOnes has a nil one, and the zero value, of which the chapter does not speak: neither takes a key.
func TestNilOnes(t *testing.T) {
	for name, l := range map[string]*level.Level{"a nil one": nil, "the zero value": {}} {
		l.Turn()
		for _, n := range append(edges.Wild(), edges.Lengths()...) {
			for _, a := range edges.Samples() {
				l.Turn(delta.Change{}, change(edges.First(a, n), 4), change(api.Prefix{Addr: a, Len: n}, -1))
				if got := look(l, a); got != (seen{}) || len(l.Keys()) != 0 || l.Bits() != 0 {
					t.Fatalf("P2102: %s: Look is %v, Keys %v, Bits %d", name, got, l.Keys(), l.Bits())
				}
			}
		}
	}
}

func TestTwoHaveNothingInCommon(t *testing.T) {
	one, two := tight(t, 3), tight(t, 3)
	one.Turn(change(edges.Read("101"), 1))
	holds(t, "P2102: one of two", one, 3, edges.Route("101", 1))
	holds(t, "P2102: the other of two", two, 3)
	if got := look(two, edges.Read("101").Addr); got != (seen{}) {
		t.Fatalf("P2102: Look in the other of two is %v", got)
	}
	two.Turn(change(edges.Read("101"), 2), change(edges.Read("000"), 3))
	one.Turn(change(edges.Read("101"), -1))
	if got := look(one, edges.Read("101").Addr); got != (seen{}) {
		t.Fatalf("P2102: Look in one of two is %v", got)
	}
	holds(t, "P2102: one of two", one, 3)
	holds(t, "P2102: the other of two", two, 3, edges.Route("000", 3), edges.Route("101", 2))
	holds(t, "P2102: a third one", tight(t, 3), 3)
}

// TestWhatIsHandedInStays has pieces of a list, which must stay, its spare room too, and turns it all afterwards, which must turn no level.
func TestWhatIsHandedInStays(t *testing.T) {
	var whole []delta.Change
	var want []api.Route
	for i := range 20 {
		p := api.Prefix{Addr: api.Addr{Hi: uint64(i) << 56}, Len: 8}
		whole = append(whole, delta.Change{Key: p, Old: i - 1, New: i}, delta.Change{Key: p, Old: i, New: -1}, delta.Change{Key: p, Old: -1, New: i + 7})
		want = append(want, api.Route{Prefix: p, Hop: i + 7})
	}
	was := slices.Clone(whole)
	for i := range whole {
		tight(t, 8).Turn(whole[:i]...)
		tight(t, 8).Turn(whole[i:]...)
	}
	l := wide(t, 8)
	l.Turn(whole...)
	if !slices.Equal(whole, was) {
		t.Fatalf("P2102: Turn turned what it was handed: %v, want %v", whole, was)
	}
	edges.Fill(whole, delta.Change{Key: api.Prefix{Len: 8}, New: math.MaxInt})
	holds(t, "P2102: behind a list that was turned", l, 8, want...)
}

// TestAnswersAreNewMemory turns a list of Keys, its spare room too: no other, and not the level, turns with it.
func TestAnswersAreNewMemory(t *testing.T) {
	l := wide(t, 8)
	var want []api.Route
	for i := range 30 {
		got, again := l.Keys(), l.Keys()
		edges.Fill(got, api.Route{Hop: math.MaxInt})
		if !slices.Equal(again, want) {
			t.Fatalf("P2102: a list of %d Keys turned by another: %v", i, again)
		}
		holds(t, "P2102: behind a list that was turned", l, 8, want...)
		r := api.Route{Prefix: api.Prefix{Addr: api.Addr{Hi: uint64(i) << 56}, Len: 8}, Hop: i}
		l.Turn(change(r.Prefix, i))
		if !slices.Equal(again, want) {
			t.Fatalf("P2102: a list of %d Keys turned by its level: %v", i, again)
		}
		want = append(want, r)
	}
}

// around is what Look answers of each of keys, and with each bit of an address turned.
func around(l *level.Level, keys []api.Route) []seen {
	var out []seen
	for _, r := range keys {
		out = append(out, look(l, r.Prefix.Addr))
		for i := range 128 {
			out = append(out, look(l, edges.Flip(r.Prefix.Addr, i)))
		}
	}
	return out
}

func TestAskingTurnsNothing(t *testing.T) {
	for start := range uint64(40) {
		l, _ := story(start)
		keys := l.Keys()
		first := around(l, keys)
		for range 2 {
			holds(t, "P2102: asked again", l, l.Bits(), keys...)
			if !slices.Equal(around(l, keys), first) {
				t.Fatalf("P2102: asked again, Look answers otherwise (start %d)", start)
			}
		}
	}
}

// TestManyAtOnce has many turn levels of their own with one list, and ask another together.
func TestManyAtOnce(t *testing.T) {
	shared, want := story(5)
	keys := shared.Keys()
	var list []delta.Change
	for _, r := range keys {
		list = append(list, change(r.Prefix, r.Hop))
	}
	again := make([][]seen, 8)
	found := make([][]api.Route, len(again))
	turned := make([]*level.Level, len(again))
	var wait sync.WaitGroup
	for i := range again {
		turned[i] = tight(t, shared.Bits())
		wait.Go(func() {
			_, again[i] = story(5)
			turned[i].Turn(list...)
			found[i] = shared.Keys()
			for _, r := range keys {
				shared.Look(r.Prefix.Addr)
			}
		})
	}
	wait.Wait()
	for i := range again {
		if want == nil || len(keys) == 0 || !slices.Equal(again[i], want) || !slices.Equal(found[i], keys) {
			t.Fatal("P2102: the same was told, another was answered")
		}
		holds(t, "P2102: Turned beside others", turned[i], shared.Bits(), keys...)
	}
}
