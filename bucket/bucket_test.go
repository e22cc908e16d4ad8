package bucket_test

import (
	"math"
	"slices"
	"sync"
	"testing"

	"flocculus/api"
	"flocculus/bucket"
)

// chance makes numbers that look like chance, the same each time.
type chance uint64

func (c *chance) next(most int) int {
	*c = *c*6364136223846793005 + 1442695040888963407
	return int(uint64(*c)>>33) % most
}

// numbers are values and lengths at the edges of their type.
var numbers = []int{0, 1, -1, 4, 128, 129, math.MaxInt32, math.MinInt32, 1 << 40, math.MaxInt - 1, math.MaxInt, math.MinInt + 1, math.MinInt}

// outside are numbers that no place has.
var outside = []int{-1, -2, -4, -5, 4, 5, 7, 8, 255, 256, math.MaxInt32, 1 << 32, 1<<32 + 1, 1 << 62, math.MaxInt - 1, math.MaxInt, math.MinInt32, -1 << 32, -1 << 62, math.MinInt + 1, math.MinInt}

// key is a prefix of an IPv4 shape.
func key(n int) api.Prefix {
	return api.Prefix{Addr: api.Addr{Hi: uint64(n) << 32}, Len: 32}
}

func route(n, v int) api.Route {
	return api.Route{Prefix: key(n), Hop: v}
}

// holding is a bucket with keys 1 and on, of the values 10 and on, at the first places.
func holding(n int) *bucket.Bucket {
	b := &bucket.Bucket{}
	for i := range n {
		b.Put(key(i+1), i+10)
	}
	return b
}

// differs fails the test where b does not hold what want has, by place.
func differs(t *testing.T, what string, b *bucket.Bucket, want ...api.Route) {
	t.Helper()
	if got := b.All(); !slices.Equal(got, want) {
		t.Fatalf("%s: All is %v, want %v", what, got, want)
	}
	for i, r := range want {
		first := slices.IndexFunc(want, func(o api.Route) bool { return o.Prefix == r.Prefix })
		if got, ok := b.Get(r.Prefix); !ok || got != want[first].Hop {
			t.Fatalf("%s: Get of %v (%d. of all) is %d, %v", what, r.Prefix, i, got, ok)
		}
	}
}

func TestANewOneIsEmpty(t *testing.T) {
	var b bucket.Bucket
	differs(t, "P1101: a new one", &b)
	for _, p := range []api.Prefix{{}, key(0), key(1), {Len: -1}, {Len: 128}} {
		if v, ok := b.Get(p); v != 0 || ok {
			t.Errorf("P1101: Get of %v in a new one is %d, %v", p, v, ok)
		}
		if b.Take(p) {
			t.Errorf("P1101: Take of %v from a new one is true", p)
		}
	}
	for i := range api.Ways {
		if p, v, ok := b.Swap(i, key(1), 7); p != (api.Prefix{}) || v != 0 || ok {
			t.Errorf("P1101: Swap %d in a new one is %v, %d, %v", i, p, v, ok)
		}
	}
	differs(t, "P1101: a new one that was asked", &b)
}

func TestPutByPlace(t *testing.T) {
	var b bucket.Bucket
	var want []api.Route
	for i, n := range []int{9, 3, 7, 1} {
		if !b.Put(key(n), i-2) {
			t.Fatalf("P1101: the %d. Put is false", i)
		}
		want = append(want, route(n, i-2))
		differs(t, "P1101: Put", &b, want...)
	}
	for range 3 {
		if b.Put(key(5), 50) {
			t.Fatal("P1101: Put into a full one is true")
		}
		differs(t, "P1101: Put into a full one", &b, want...)
	}
	if v, ok := b.Get(key(5)); v != 0 || ok {
		t.Errorf("P1101: what found no place has %d, %v", v, ok)
	}
}

func TestPutOfWhatIsThere(t *testing.T) {
	for n := 1; n <= api.Ways; n++ {
		for i := range n {
			b := holding(n)
			want := b.All()
			want[i].Hop = -99
			if !b.Put(key(i+1), -99) {
				t.Fatalf("P1101: Put of key %d of %d is false", i+1, n)
			}
			differs(t, "P1101: Put of what is there", b, want...)
		}
	}
}

// TestPutOfWhatIsBehindAnEmptyPlace has a key that stays at its place, though one before it is empty.
func TestPutOfWhatIsBehindAnEmptyPlace(t *testing.T) {
	b := holding(api.Ways)
	b.Take(key(1))
	if !b.Put(key(4), 44) {
		t.Fatal("P1101: Put of what is there is false")
	}
	differs(t, "P1101: Put behind an empty place", b, route(2, 11), route(3, 12), route(4, 44))
	b.Put(key(8), 80)
	differs(t, "P1101: the first empty place", b, route(8, 80), route(2, 11), route(3, 12), route(4, 44))
}

func TestTakeLeavesTheOthers(t *testing.T) {
	for i := range api.Ways {
		b := holding(api.Ways)
		full := b.All()
		want := slices.Delete(slices.Clone(full), i, i+1)
		if !b.Take(key(i + 1)) {
			t.Fatalf("P1101: Take of key %d is false", i+1)
		}
		differs(t, "P1101: Take", b, want...)
		if v, ok := b.Get(key(i + 1)); v != 0 || ok {
			t.Errorf("P1101: Get of what was taken is %d, %v", v, ok)
		}
		if b.Take(key(i + 1)) {
			t.Error("P1101: a second Take is true")
		}
		if p, v, ok := b.Swap(i, key(6), 6); p != (api.Prefix{}) || v != 0 || ok {
			t.Errorf("P1101: Swap with what was taken is %v, %d, %v", p, v, ok)
		}
		differs(t, "P1101: asked of what was taken", b, want...)
		for j := range api.Ways {
			// What is behind the empty place can still be reached by its own place's number.
			p, v, ok := b.Swap(j, full[j].Prefix, full[j].Hop)
			if j != i && (p != full[j].Prefix || v != full[j].Hop || !ok) {
				t.Errorf("P1101: behind Take of key %d, place %d has %v, %d, %v", i+1, j, p, v, ok)
			}
		}
		b.Put(key(9), 9)
		full[i] = route(9, 9)
		differs(t, "P1101: Put where one was taken", b, full...)
	}
}

// TestEachSetOfEmptyPlaces takes all that can be taken, and fills up again.
func TestEachSetOfEmptyPlaces(t *testing.T) {
	for set := range 1 << api.Ways {
		b := holding(api.Ways)
		var left, want []api.Route
		next := 20
		for i, r := range holding(api.Ways).All() {
			if set>>i&1 == 0 {
				left, want = append(left, r), append(want, r)
				continue
			}
			if !b.Take(r.Prefix) {
				t.Fatalf("P1101: Take of %v is false", r.Prefix)
			}
			want = append(want, route(next, -next))
			next++
		}
		differs(t, "P1101: what is left", b, left...)
		for n := 20; n < next; n++ {
			if !b.Put(key(n), -n) {
				t.Fatalf("P1101: Put beside %v is false", left)
			}
		}
		differs(t, "P1101: filled up again", b, want...)
		if b.Put(key(next), 0) {
			t.Fatal("P1101: Put into one that is full again is true")
		}
	}
}

func TestSwap(t *testing.T) {
	for n := range api.Ways + 1 {
		for i := range api.Ways {
			b := holding(n)
			want := b.All()
			p, v, ok := b.Swap(i, key(7), 70)
			if i >= n {
				if p != (api.Prefix{}) || v != 0 || ok {
					t.Errorf("P1101: Swap with the empty place %d is %v, %d, %v", i, p, v, ok)
				}
				differs(t, "P1101: Swap with an empty place", b, want...)
				continue
			}
			if p != want[i].Prefix || v != want[i].Hop || !ok {
				t.Errorf("P1101: Swap %d is %v, %d, %v, want %v", i, p, v, ok, want[i])
			}
			want[i] = route(7, 70)
			differs(t, "P1101: Swap", b, want...)
			if _, ok := b.Get(p); ok {
				t.Errorf("P1101: %v came out, and is there", p)
			}
		}
	}
}

func TestSwapWithNoSuchPlace(t *testing.T) {
	for n := range api.Ways + 1 {
		b := holding(n)
		want := b.All()
		for _, i := range outside {
			for _, k := range []int{1, 7} {
				if p, v, ok := b.Swap(i, key(k), 70); p != (api.Prefix{}) || v != 0 || ok {
					t.Errorf("P1101: Swap %d is %v, %d, %v", i, p, v, ok)
				}
			}
			differs(t, "P1101: Swap with no such place", b, want...)
		}
	}
}

func TestSwapWithTheSameKey(t *testing.T) {
	b := holding(3)
	if p, v, ok := b.Swap(1, key(2), 99); p != key(2) || v != 11 || !ok {
		t.Errorf("P1101: Swap with its own key is %v, %d, %v", p, v, ok)
	}
	differs(t, "P1101: Swap with its own key", b, route(1, 10), route(2, 99), route(3, 12))
}

// TestAKeyInTwoPlaces has one at each two places, also the one that was there first behind the other.
func TestAKeyInTwoPlaces(t *testing.T) {
	for from := range api.Ways {
		for to := range api.Ways {
			if from == to {
				continue
			}
			b := holding(api.Ways)
			want := b.All()
			twice := want[from].Prefix
			b.Swap(to, twice, 77)
			want[to] = api.Route{Prefix: twice, Hop: 77}
			differs(t, "P1101: a key in two places", b, want...)
			first, second := min(from, to), max(from, to)
			if !b.Put(twice, 55) {
				t.Fatal("P1101: Put of a key in two places is false")
			}
			want[first].Hop = 55
			differs(t, "P1101: Put of a key in two places", b, want...)
			if !b.Take(twice) {
				t.Fatal("P1101: Take of a key in two places is false")
			}
			left := slices.Delete(slices.Clone(want), first, first+1)
			differs(t, "P1101: Take of a key in two places", b, left...)
			// It is there still, behind the empty place, which stays empty.
			b.Put(twice, 66)
			left[second-1].Hop = 66
			differs(t, "P1101: Put of the one that is left", b, left...)
			if !b.Take(twice) || b.Take(twice) {
				t.Fatal("P1101: Take of the one that is left is false, or a third is true")
			}
		}
	}
}

func TestAKeyInAllPlaces(t *testing.T) {
	b := holding(api.Ways)
	for i := range api.Ways {
		b.Swap(i, key(7), i)
	}
	for i := range api.Ways {
		if v, ok := b.Get(key(7)); v != i || !ok {
			t.Errorf("P1101: Get is %d, %v, want the first one left, %d", v, ok, i)
		}
		if !b.Take(key(7)) {
			t.Errorf("P1101: the %d. Take is false", i)
		}
	}
	differs(t, "P1101: all taken", b)
}

// TestKeysAreWholePrefixes has keys that differ in one part alone, and none that is Right.
func TestKeysAreWholePrefixes(t *testing.T) {
	keys := []api.Prefix{
		{Addr: api.Addr{Hi: 5, Lo: 6}, Len: 7},
		{Addr: api.Addr{Hi: 4, Lo: 6}, Len: 7},
		{Addr: api.Addr{Hi: 5, Lo: 2}, Len: 7},
		{Addr: api.Addr{Hi: 5, Lo: 6}, Len: -7},
	}
	var b bucket.Bucket
	var want []api.Route
	for i, p := range keys {
		if _, ok := b.Get(p); ok || b.Take(p) {
			t.Fatalf("P1101: %v passes for another key", p)
		}
		b.Put(p, i)
		want = append(want, api.Route{Prefix: p, Hop: i})
		differs(t, "P1101: keys that differ in one part", &b, want...)
	}
}

func TestTheZeroKeyAndTheZeroValue(t *testing.T) {
	var b bucket.Bucket
	if !b.Put(api.Prefix{}, 0) {
		t.Fatal("P1101: Put of the zero key is false")
	}
	differs(t, "P1101: the zero key", &b, api.Route{})
	b.Put(key(1), 0)
	differs(t, "P1101: the zero key and another", &b, api.Route{}, route(1, 0))
	if p, v, ok := b.Swap(0, key(2), 5); p != (api.Prefix{}) || v != 0 || !ok {
		t.Errorf("P1101: Swap with the zero key is %v, %d, %v", p, v, ok)
	}
	if b.Take(api.Prefix{}) {
		t.Error("P1101: an empty place passes for the zero key")
	}
	if _, ok := b.Get(api.Prefix{}); ok {
		t.Error("P1101: an empty place passes for the zero key")
	}
	differs(t, "P1101: the zero key came out", &b, route(2, 5), route(1, 0))
}

func TestAnyNumbers(t *testing.T) {
	for _, n := range numbers {
		for _, v := range numbers {
			for _, bits := range []uint64{0, 1, math.MaxInt64, 1 << 63, math.MaxUint64} {
				p := api.Prefix{Addr: api.Addr{Hi: bits, Lo: ^bits}, Len: n}
				b := holding(2)
				if !b.Put(p, v) {
					t.Fatalf("P1101: Put of %v, %d is false", p, v)
				}
				differs(t, "P1101: any numbers", b, route(1, 10), route(2, 11), api.Route{Prefix: p, Hop: v})
				if q, w, ok := b.Swap(2, key(5), 5); q != p || w != v || !ok {
					t.Fatalf("P1101: Swap is %v, %d, %v, want %v, %d", q, w, ok, p, v)
				}
			}
		}
	}
}

// plain is a bucket by the chapter's own words: a number for each place that is taken.
type plain map[int]api.Route

func (m plain) find(p api.Prefix) int {
	for i := range 4 {
		if r, ok := m[i]; ok && r.Prefix == p {
			return i
		}
	}
	return -1
}

func (m plain) put(p api.Prefix, v int) bool {
	i := m.find(p)
	for j := 3; j >= 0 && m.find(p) < 0; j-- {
		if _, ok := m[j]; !ok {
			i = j
		}
	}
	if i >= 0 {
		m[i] = api.Route{Prefix: p, Hop: v}
	}
	return i >= 0
}

func (m plain) take(p api.Prefix) bool {
	i := m.find(p)
	delete(m, i)
	return i >= 0
}

func (m plain) swap(i int, p api.Prefix, v int) (api.Prefix, int, bool) {
	out, ok := m[i]
	if ok {
		m[i] = api.Route{Prefix: p, Hop: v}
	}
	return out.Prefix, out.Hop, ok
}

func (m plain) all() []api.Route {
	var out []api.Route
	for i := range 4 {
		if r, ok := m[i]; ok {
			out = append(out, r)
		}
	}
	return out
}

// story turns a bucket by numbers that follow from seed, keys twice over among them, and tells all that was answered; nothing where a plain one answers otherwise.
func story(seed, keys, steps int) []api.Route {
	c := chance(seed)
	var out []api.Route
	b, want := &bucket.Bucket{}, plain{}
	for range steps {
		p, v := api.Prefix{Addr: api.Addr{Hi: uint64(c.next(2))}, Len: c.next(keys)}, c.next(2001)-1000
		var right bool
		switch c.next(5) {
		case 0, 1:
			right = b.Put(p, v) == want.put(p, v)
		case 2:
			right = b.Take(p) == want.take(p)
		case 3:
			got, ok := b.Get(p)
			at := want.find(p)
			right = ok == (at >= 0) && got == want[at].Hop
		case 4:
			i := c.next(6) - 1
			q, w, ok := b.Swap(i, p, v)
			q2, w2, ok2 := want.swap(i, p, v)
			right = q == q2 && w == w2 && ok == ok2
		}
		if !right || !slices.Equal(b.All(), want.all()) {
			return nil
		}
		out = append(append(out, api.Route{Prefix: p, Hop: v}), b.All()...)
	}
	return out
}

func TestAgainstAPlainForm(t *testing.T) {
	for keys := 1; keys < 12; keys++ {
		for seed := range 20 {
			if story(seed, keys, 1000) == nil {
				t.Errorf("P1101: seed %d, %d keys: it does otherwise than a plain one", seed, keys)
			}
		}
	}
}

func TestNil(t *testing.T) {
	var none *bucket.Bucket
	for _, p := range []api.Prefix{{}, key(1), {Len: -1}} {
		if v, ok := none.Get(p); v != 0 || ok {
			t.Errorf("P1102: Get of a nil one is %d, %v", v, ok)
		}
		if none.Put(p, 1) || none.Take(p) {
			t.Error("P1102: Put or Take of a nil one is true")
		}
		for _, i := range append([]int{0, 1, 2, 3}, outside...) {
			if q, v, ok := none.Swap(i, p, 1); q != (api.Prefix{}) || v != 0 || ok {
				t.Errorf("P1102: Swap %d of a nil one is %v, %d, %v", i, q, v, ok)
			}
		}
	}
	if got := none.All(); len(got) != 0 {
		t.Errorf("P1102: All of a nil one is %v", got)
	}
}

func TestTwoHaveNothingInCommon(t *testing.T) {
	one, two := holding(3), holding(2)
	one.Put(key(1), 99)
	two.Take(key(2))
	differs(t, "P1102: one of two", one, route(1, 99), route(2, 11), route(3, 12))
	differs(t, "P1102: the other of two", two, route(1, 10))
	differs(t, "P1102: a third one", &bucket.Bucket{})
}

// TestACopyIsAnother has a bucket copied as a value, as a list that grows does it.
func TestACopyIsAnother(t *testing.T) {
	one := *holding(3)
	two := one
	two.Swap(0, key(7), 7)
	two.Put(key(8), 8)
	one.Take(key(3))
	differs(t, "P1102: what was copied", &one, route(1, 10), route(2, 11))
	differs(t, "P1102: a copy", &two, route(7, 7), route(2, 11), route(3, 12), route(8, 8))
}

func TestAllIsNewMemory(t *testing.T) {
	for n := range api.Ways + 1 {
		b := holding(n)
		want := holding(n).All()
		got, again := b.All(), b.All()
		for i := range got {
			got[i] = route(77, 77)
		}
		got = append(got, route(78, 78))
		got[0] = route(79, 79)
		if !slices.Equal(again, want) {
			t.Errorf("P1102: a list turned by another: %v", again)
		}
		differs(t, "P1102: a list that was turned", b, want...)
		b.Take(key(1))
		b.Put(key(9), 9)
		if !slices.Equal(again, want) {
			t.Errorf("P1102: a list turned by its bucket: %v", again)
		}
	}
}

func TestAskingTurnsNothing(t *testing.T) {
	b := holding(3)
	b.Take(key(2))
	for range 3 {
		differs(t, "P1102: asked again", b, route(1, 10), route(3, 12))
		if _, ok := b.Get(key(2)); ok {
			t.Error("P1102: Get of what is not there is true")
		}
	}
}

func TestAnswersHangOnWhatWasToldAlone(t *testing.T) {
	want := story(5, 7, 3000)
	again := make([][]api.Route, 8)
	var wait sync.WaitGroup
	for i := range again {
		wait.Go(func() { again[i] = story(5, 7, 3000) })
	}
	wait.Wait()
	for _, got := range again {
		if want == nil || !slices.Equal(got, want) {
			t.Fatal("P1102: the same was told, another was answered")
		}
	}
}
