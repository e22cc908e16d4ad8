package filter_test

import (
	"math"
	"slices"
	"sync"
	"testing"

	"flocculus/addr"
	"flocculus/api"
	"flocculus/filter"
	"flocculus/pick"
)

const ones = math.MaxUint64

// ten is 10.0.0.0/8.
var ten = prefix(10<<56, 0, 8)

func prefix(hi, lo uint64, n int) api.Prefix {
	return api.Prefix{Addr: api.Addr{Hi: hi, Lo: lo}, Len: n}
}

// outside are numbers that no place of m has, also those that fall into the room that the last words have to spare.
func outside(m int) []int {
	out := []int{-1, -2, -16, -64, -m, -m - 1, math.MinInt32, -1 << 32, -1 << 60, math.MinInt + 1, math.MinInt}
	for i := m; i < m+130; i++ {
		out = append(out, i)
	}
	return append(out, 2*m+1, api.MaxBits, api.MaxBits+1, math.MaxInt32, 1<<32, 1<<60, 1<<62, math.MaxInt-1, math.MaxInt)
}

// plain is a filter of a number each place, without bits: the form against which the packed one is held.
type plain struct {
	seed   uint64
	hashes int
	counts []int
}

func (w *plain) places(p api.Prefix) []int {
	return pick.Places(w.seed, p, w.hashes, len(w.counts))
}

func (w *plain) add(p api.Prefix) {
	for _, i := range w.places(p) {
		if w.counts[i] < 15 {
			w.counts[i]++
		}
	}
}

func (w *plain) remove(p api.Prefix) {
	for _, i := range w.places(p) {
		if w.counts[i] > 0 && w.counts[i] < 15 {
			w.counts[i]--
		}
	}
}

func (w *plain) may(p api.Prefix) bool {
	for _, i := range w.places(p) {
		if w.counts[i] == 0 {
			return false
		}
	}
	return true
}

// pair makes a filter, and its plain form.
func pair(t *testing.T, seed uint64, k, m int) (*filter.Filter, *plain) {
	t.Helper()
	f, e := filter.New(seed, k, m)
	if f == nil || e != api.OK {
		t.Fatalf("P901: New(%#x, %d, %d): %v, %d", seed, k, m, f, e)
	}
	return f, &plain{seed: seed, hashes: k, counts: make([]int, m)}
}

// same fails the test where f is not as its counters want it.
func same(t *testing.T, what string, f *filter.Filter, counts ...int) {
	t.Helper()
	if got := f.Len(); got != len(counts) {
		t.Fatalf("%s: Len is %d, want %d", what, got, len(counts))
	}
	full := 0
	for i, n := range counts {
		if got := f.Counter(i); got != n {
			t.Fatalf("%s: Counter(%d) of %d is %d, want %d", what, i, len(counts), got, n)
		}
		if got := f.On(i); got != (n > 0) {
			t.Fatalf("%s: On(%d) of %d is %v at %d", what, i, len(counts), got, n)
		}
		if n == 15 {
			full++
		}
	}
	if got := f.Full(); got != full {
		t.Fatalf("%s: Full is %d, want %d", what, got, full)
	}
}

// chance makes numbers, the same ones from the same start.
type chance uint64

func (c *chance) next(most int) int {
	*c = *c*6364136223846793005 + 1442695040888963407
	return int(uint64(*c) >> 33 % uint64(most))
}

// key makes a key of few addresses and lengths, so that keys come again; one in some is not addr.Right.
func (c *chance) key() api.Prefix {
	n := c.next(9)
	a := api.Addr{Hi: uint64(c.next(8))<<61 | uint64(c.next(3))<<56}
	switch c.next(12) {
	case 0:
		return api.Prefix{Addr: a, Len: -n}
	case 1:
		return api.Prefix{Addr: api.Addr{Hi: a.Hi, Lo: 1}, Len: n + 121}
	}
	return api.Prefix{Addr: addr.Cut(a, n), Len: n}
}

func TestNewOfWhatThereCanBe(t *testing.T) {
	for _, m := range []int{1, 2, 5, 15, 16, 17, 63, 64, 65, 1000, api.MaxBits - 1, api.MaxBits} {
		for _, k := range []int{1, 2, 3, 8, 15, 16} {
			for _, seed := range []uint64{0, 7, 1 << 63, ones} {
				f, _ := pair(t, seed, k, m)
				if f.Len() != m || f.Full() != 0 {
					t.Fatalf("P901: New(%#x, %d, %d): Len %d, Full %d", seed, k, m, f.Len(), f.Full())
				}
				for _, p := range []api.Prefix{{}, ten, prefix(ones, ones, 128), prefix(0, 0, -1)} {
					if f.May(p) {
						t.Fatalf("P901: New(%#x, %d, %d): %x May be there", seed, k, m, p)
					}
				}
			}
		}
		f, w := pair(t, 7, 3, m)
		same(t, "P901: a new one", f, w.counts...)
	}
}

func TestNewRefuses(t *testing.T) {
	wrongHashes := []int{0, -1, -16, 17, 18, 32, 1 << 32, 1<<32 + 1, math.MinInt32, math.MaxInt32, math.MinInt, math.MinInt + 1, math.MaxInt}
	wrongPlaces := []int{0, -1, -5, api.MaxBits + 1, 2 * api.MaxBits, 1 << 32, 1<<32 + 1, math.MinInt32, math.MaxInt32, math.MinInt, math.MinInt + 1, math.MaxInt}
	refused := func(k, m int) {
		t.Helper()
		for _, seed := range []uint64{0, 7, ones} {
			if f, e := filter.New(seed, k, m); f != nil || e != api.ErrArg {
				t.Errorf("P901: New(%#x, %d, %d): nil is %v, error %d, want nil and %d", seed, k, m, f == nil, e, api.ErrArg)
			}
		}
	}
	for _, k := range wrongHashes {
		for _, m := range append([]int{1, 5, api.MaxBits}, wrongPlaces...) {
			refused(k, m)
		}
	}
	for _, m := range wrongPlaces {
		for _, k := range []int{1, 4, 16} {
			refused(k, m)
		}
	}
}

// TestPlacesOfSome holds the places to numbers worked out apart from the program.
func TestPlacesOfSome(t *testing.T) {
	for _, x := range []struct {
		seed uint64
		p    api.Prefix
		k, m int
		want []int
	}{
		{0, prefix(0, 0, 0), 4, 1000, []int{138, 268, 398, 527}},
		{7, ten, 1, 65536, []int{59255}},
		{7, ten, 3, 100, []int{31, 72, 90}},
		{7, ten, 16, 65536, []int{1857, 5926, 9268, 13337, 17406, 20748, 24816, 28885, 36296, 40365, 44434, 47776, 51845, 55913, 59255, 63324}},
	} {
		f, w := pair(t, x.seed, x.k, x.m)
		f.Add(x.p)
		for _, i := range x.want {
			w.counts[i] = 1
		}
		same(t, "P901: Add of one key", f, w.counts...)
		if !f.May(x.p) {
			t.Errorf("P901: %x was Added, and May is false", x.p)
		}
		f.Remove(x.p)
		same(t, "P901: Remove of it", f, make([]int, x.m)...)
		if f.May(x.p) {
			t.Errorf("P901: %x was Removed, and May is true", x.p)
		}
	}
}

// TestTheSamePlaceTwice has a key whose 16 hashes lead to three places, 6, 4 and 6 times.
func TestTheSamePlaceTwice(t *testing.T) {
	f, _ := pair(t, 7, 16, 3)
	f.Add(ten)
	same(t, "P901: Add of three places in 16 steps", f, 6, 4, 6)
	f.Add(ten)
	same(t, "P901: Add of it once more", f, 12, 8, 12)
	f.Remove(ten)
	same(t, "P901: Remove", f, 6, 4, 6)
	f.Remove(ten)
	same(t, "P901: Remove once more", f, 0, 0, 0)
	f.Remove(ten)
	same(t, "P901: Remove of what is not there", f, 0, 0, 0)
	if f.May(ten) {
		t.Error("P901: all counters are 0, and May is true")
	}
}

func TestTheTopStays(t *testing.T) {
	f, _ := pair(t, 7, 16, 3)
	for range 3 {
		f.Add(ten)
	}
	same(t, "P901: two of three at the top", f, 15, 12, 15)
	f.Remove(ten)
	same(t, "P901: Remove at the top", f, 15, 8, 15)
	if !f.May(ten) {
		t.Error("P902: three times Added, once Removed, and May is false")
	}
	for range 2 {
		f.Remove(ten)
	}
	same(t, "P901: Remove as often as Add", f, 15, 0, 15)
	if f.May(ten) {
		t.Error("P901: one of three places is off, and May is true")
	}
	for range 50 {
		f.Add(ten)
	}
	same(t, "P901: Add at the top", f, 15, 15, 15)
	for range 50 {
		f.Remove(ten)
	}
	same(t, "P901: Remove with all at the top", f, 15, 15, 15)
	if !f.May(ten) {
		t.Error("P901: all at the top, and May is false")
	}
}

// TestOnePlace has all keys at the one place that there is, which goes up and down by each.
func TestOnePlace(t *testing.T) {
	f, _ := pair(t, 1, 1, 1)
	for n := 1; n <= 14; n++ {
		f.Add(prefix(uint64(n)<<56, 0, 8))
		same(t, "P901: Add", f, n)
		if !f.May(api.Prefix{}) {
			t.Fatal("P901: the one place is on, and May is false")
		}
	}
	for n := 13; n >= 0; n-- {
		f.Remove(prefix(uint64(n+1)<<56, 0, 8))
		same(t, "P901: Remove", f, n)
		if got := f.May(api.Prefix{}); got != (n > 0) {
			t.Fatalf("P901: the one place is at %d, and May is %v", n, got)
		}
	}
	f.Remove(ten)
	same(t, "P901: Remove at 0", f, 0)
	for n := 1; n <= 30; n++ {
		f.Add(ten)
		same(t, "P901: Add up to the top", f, min(n, 15))
	}
	for range 30 {
		f.Remove(ten)
		same(t, "P901: Remove at the top", f, 15)
	}
}

// TestMayAsksAllPlaces turns off one place of a key at a time, each by another key that lies there and at no other place of it.
func TestMayAsksAllPlaces(t *testing.T) {
	const seed, hashes, size = 5, 4, 200
	key := prefix(0x20010db8<<32, 0, 32)
	places := pick.Places(seed, key, hashes, size)
	if len(slices.Compact(slices.Sorted(slices.Values(places)))) != hashes {
		t.Fatal("the key has a place twice")
	}
	missed := make([]int, hashes)
	for which, off := range places {
		for x := range uint64(4000) {
			other := prefix(x<<48, 0, 16)
			at := pick.Places(seed, other, hashes, size)
			if !slices.Contains(at, off) {
				continue
			}
			f, w := pair(t, seed, hashes, size)
			f.Add(key)
			w.add(key)
			f.Remove(other)
			w.remove(other)
			same(t, "P901: Remove of what was not Added", f, w.counts...)
			if f.May(key) {
				t.Fatalf("P901: place %d of a key is off, and May is true", which)
			}
			if alone := !slices.ContainsFunc(at, func(i int) bool { return i != off && slices.Contains(places, i) }); alone {
				missed[which]++
			}
		}
	}
	if slices.Min(missed) == 0 {
		t.Fatalf("no key turns off one place alone: %v", missed)
	}
}

// TestWhatIsNotThereMayBe finds a key that was never Added, and whose places others have all turned on.
func TestWhatIsNotThereMayBe(t *testing.T) {
	f, w := pair(t, 3, 3, 40)
	for x := range uint64(12) {
		f.Add(prefix(x<<56, 0, 8))
		w.add(prefix(x<<56, 0, 8))
	}
	yes, no := 0, 0
	for x := uint64(12); x < 256; x++ {
		p := prefix(x<<56, 0, 8)
		if got := f.May(p); got != w.may(p) {
			t.Fatalf("P901: May(%x) is %v", p, got)
		} else if got {
			yes++
		} else {
			no++
		}
	}
	if yes == 0 || no == 0 {
		t.Errorf("P901: of what was not Added %d May be there, %d not", yes, no)
	}
}

// TestKeysThatAreNoPrefixes holds that a key is taken as it stands: by its whole address and any Len.
func TestKeysThatAreNoPrefixes(t *testing.T) {
	keys := []api.Prefix{
		prefix(ones, ones, 0), prefix(10<<56, 1, 8), prefix(10<<56|1, 0, 8), prefix(10<<56, 0, 9), prefix(10<<56, 0, -8),
		prefix(0, 0, 129), prefix(ones, ones, 129), prefix(0, 0, -1), prefix(ones, 0, math.MinInt), prefix(0, ones, math.MaxInt),
	}
	for _, p := range keys {
		f, w := pair(t, 11, 5, 1000)
		f.Add(p)
		w.add(p)
		same(t, "P901: Add of what is no prefix", f, w.counts...)
		for _, q := range append(keys, ten) {
			if got := f.May(q); got != w.may(q) {
				t.Fatalf("P901: Add(%x), May(%x) is %v", p, q, got)
			}
		}
		f.Remove(p)
		same(t, "P901: Remove of what is no prefix", f, make([]int, 1000)...)
	}
}

func TestNoSuchPlace(t *testing.T) {
	for _, m := range []int{1, 2, 5, 15, 16, 17, 63, 64, 65, 1000, api.MaxBits} {
		f, w := pair(t, 2, 16, m)
		for x := range uint64(200) {
			f.Add(prefix(x<<56, 0, 8))
			w.add(prefix(x<<56, 0, 8))
		}
		for _, i := range outside(m) {
			if f.Counter(i) != 0 || f.On(i) {
				t.Fatalf("P901: place %d of %d: Counter %d, On %v", i, m, f.Counter(i), f.On(i))
			}
		}
		same(t, "P901: asked for places that there are not", f, w.counts...)
	}
}

// story tells a filter and its plain form what follows from start, and holds one against the other at each step; right is false where they differed on the way.
func story(start uint64, k, m, steps int) (f *filter.Filter, w *plain, right bool) {
	c := chance(start)
	seed := start * 0x9E3779B97F4A7C15
	f, _ = filter.New(seed, k, m)
	w, right = &plain{seed: seed, hashes: k, counts: make([]int, m)}, true
	for range steps {
		p := c.key()
		if c.next(5) > 1 {
			f.Add(p)
			w.add(p)
		} else {
			f.Remove(p)
			w.remove(p)
		}
		q, i := c.key(), c.next(m)
		right = right && f.May(p) == w.may(p) && f.May(q) == w.may(q) && f.Counter(i) == w.counts[i] && f.On(i) == (w.counts[i] > 0)
	}
	return f, w, right
}

func TestAgainstAPlainForm(t *testing.T) {
	for k := 1; k <= 16; k++ {
		for _, m := range []int{1, 2, 3, 10, 33, 64, 65, 200, 1000, 4096} {
			f, w, right := story(uint64(100*k+m), k, m, 400)
			if !right {
				t.Errorf("P901: %d hashes to %d places are not as plain ones on the way", k, m)
			}
			same(t, "P901: as many steps", f, w.counts...)
		}
	}
}

// TestWhatIsThereMayBe tells a filter of few places of many keys, and takes away no key that it was not told of.
func TestWhatIsThereMayBe(t *testing.T) {
	topped := 0
	for start := range uint64(40) {
		c := chance(start)
		k, m := 1+c.next(16), 1+c.next(120)
		f, _ := pair(t, start, k, m)
		there := map[api.Prefix]int{}
		for range 300 {
			p := c.key()
			if there[p] > 0 && c.next(2) == 0 {
				f.Remove(p)
				there[p]--
			} else {
				f.Add(p)
				there[p]++
			}
			for p, n := range there {
				if n > 0 && !f.May(p) {
					t.Fatalf("P902: %x is there %d times, and May is false", p, n)
				}
			}
		}
		topped += f.Full()
	}
	if topped == 0 {
		t.Error("P902: no counter has come to its top")
	}
}

// TestWhatIsGoneLeavesNothing takes away all that was told, in another order, with no counter ever at its top.
func TestWhatIsGoneLeavesNothing(t *testing.T) {
	f, _ := pair(t, 9, 4, 2000)
	var keys []api.Prefix
	for x := range uint64(256) {
		keys = append(keys, prefix(x<<56, 0, 8))
		f.Add(keys[x])
	}
	if f.Full() > 0 {
		t.Fatal("a counter is at its top")
	}
	slices.Reverse(keys)
	for i, p := range keys {
		f.Remove(p)
		for _, q := range keys[i+1:] {
			if !f.May(q) {
				t.Fatalf("P902: %x is there, and May is false", q)
			}
		}
	}
	same(t, "P901: all Removed", f, make([]int, 2000)...)
}

// TestNone holds for the nil one what the chapter says, and for the zero value that it has no place.
func TestNone(t *testing.T) {
	for name, f := range map[string]*filter.Filter{"a nil one": nil, "the zero value": {}} {
		for _, p := range []api.Prefix{{}, ten, prefix(ones, ones, 128), prefix(0, 0, math.MinInt)} {
			f.Remove(p)
			f.Add(p)
			f.Add(p)
			if f.May(p) {
				t.Errorf("P902: %s: %x May be there", name, p)
			}
		}
		for _, i := range append(outside(0), 0, 1, 63, 64) {
			if f.Counter(i) != 0 || f.On(i) {
				t.Errorf("P902: %s: place %d: Counter %d, On %v", name, i, f.Counter(i), f.On(i))
			}
		}
		if f.Full() != 0 || f.Len() != 0 {
			t.Errorf("P902: %s: Full %d, Len %d", name, f.Full(), f.Len())
		}
	}
}

func TestTwoHaveNothingInCommon(t *testing.T) {
	one, wantOne := pair(t, 7, 4, 300)
	two, wantTwo := pair(t, 7, 4, 300)
	for x := range uint64(20) {
		p, q := prefix(x<<56, 0, 8), prefix(x<<48, 0, 16)
		one.Add(p)
		wantOne.add(p)
		two.Add(q)
		two.Add(q)
		two.Remove(p)
		wantTwo.add(q)
		wantTwo.add(q)
		wantTwo.remove(p)
	}
	same(t, "P902: one of two", one, wantOne.counts...)
	same(t, "P902: the other of two", two, wantTwo.counts...)
	three, _ := pair(t, 7, 4, 300)
	same(t, "P902: a third one", three, make([]int, 300)...)
}

func TestAskingTurnsNothing(t *testing.T) {
	f, w, _ := story(4, 3, 100, 60)
	for range 4 {
		for x := range uint64(300) {
			f.May(prefix(x<<55, 0, 9))
		}
		for _, i := range outside(100) {
			f.Counter(i)
			f.On(i)
		}
		same(t, "P902: asked again", f, w.counts...)
	}
}

func TestAnswersHangOnWhatWasToldAlone(t *testing.T) {
	_, w, _ := story(5, 4, 100, 500)
	again := make([]*filter.Filter, 8)
	var wait sync.WaitGroup
	for i := range again {
		wait.Go(func() { again[i], _, _ = story(5, 4, 100, 500) })
	}
	wait.Wait()
	for _, f := range again {
		same(t, "P902: told the same", f, w.counts...)
	}
}
