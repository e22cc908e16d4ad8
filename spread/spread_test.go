package spread_test

import (
	"math"
	"slices"
	"sync"
	"testing"

	"flocculus/addr"
	"flocculus/api"
	"flocculus/spread"
)

const ones = math.MaxUint64

// samples are addresses with bits at, and on both sides of, the border of the two words.
var samples = []api.Addr{
	{},
	{Hi: ones, Lo: ones},
	{Hi: ones},
	{Lo: ones},
	{Hi: 1, Lo: 1 << 63},
	{Hi: ones - 1, Lo: ones >> 1},
	{Hi: 0x20010DB885A30000, Lo: 0x00008A2E03707334},
	{Hi: 0xAAAAAAAAAAAAAAAA, Lo: 0x5555555555555555},
	{Hi: 10 << 56},
}

// wild are lengths that no prefix has.
var wild = []int{math.MinInt, math.MinInt + 1, math.MinInt + 128, math.MinInt32, -256, -129, -128, -64, -8, -1, 129, 130, 136, 137, 192, 256, math.MaxInt32, math.MaxInt - 128, math.MaxInt}

func prefix(hi, lo uint64, n int) api.Prefix {
	return api.Prefix{Addr: api.Addr{Hi: hi, Lo: lo}, Len: n}
}

// set turns bit i of a on.
func set(a api.Addr, i int) api.Addr {
	if i < 64 {
		a.Hi |= 1 << (63 - i)
	} else {
		a.Lo |= 1 << (127 - i)
	}
	return a
}

// plain doubles the keys bit by bit, first the one with the bit off: the form against which Keys is held.
func plain(p api.Prefix, n int) []api.Prefix {
	keys := []api.Prefix{p}
	for i := p.Len; i < n; i++ {
		var longer []api.Prefix
		for _, k := range keys {
			longer = append(longer, api.Prefix{Addr: k.Addr, Len: i + 1}, api.Prefix{Addr: set(k.Addr, i), Len: i + 1})
		}
		keys = longer
	}
	return keys
}

// nothing tells whether both calls answer that there are no keys.
func nothing(p api.Prefix, n int) bool {
	return spread.Count(p, n) == 0 && len(spread.Keys(p, n)) == 0
}

func TestExamples(t *testing.T) {
	for n := range 129 {
		p := api.Prefix{Addr: addr.Cut(samples[1], n), Len: n}
		if got := spread.Count(p, n); got != 1 {
			t.Errorf("P401: Count(%x, %d) = %d, want 1", p, n, got)
		}
		if got := spread.Keys(p, n); !slices.Equal(got, []api.Prefix{p}) {
			t.Errorf("P401: Keys(%x, %d) = %x, want itself", p, n, got)
		}
	}
}

func TestKeysOfSome(t *testing.T) {
	for _, x := range []struct {
		p    api.Prefix
		n    int
		want []api.Prefix
	}{
		{prefix(0, 0, 0), 0, []api.Prefix{{}}},
		{prefix(0, 0, 0), 1, []api.Prefix{prefix(0, 0, 1), prefix(1<<63, 0, 1)}},
		{prefix(10<<56, 0, 8), 10, []api.Prefix{prefix(40<<54, 0, 10), prefix(41<<54, 0, 10), prefix(42<<54, 0, 10), prefix(43<<54, 0, 10)}},
		{prefix(ones-1, 0, 63), 64, []api.Prefix{prefix(ones-1, 0, 64), prefix(ones, 0, 64)}},
		{prefix(2, 0, 63), 65, []api.Prefix{prefix(2, 0, 65), prefix(2, 1<<63, 65), prefix(3, 0, 65), prefix(3, 1<<63, 65)}},
		{prefix(7, 0, 64), 65, []api.Prefix{prefix(7, 0, 65), prefix(7, 1<<63, 65)}},
		{prefix(7, 8, 126), 128, []api.Prefix{prefix(7, 8, 128), prefix(7, 9, 128), prefix(7, 10, 128), prefix(7, 11, 128)}},
		{prefix(ones, ones-1, 127), 128, []api.Prefix{prefix(ones, ones-1, 128), prefix(ones, ones, 128)}},
		{prefix(ones, ones, 128), 128, []api.Prefix{prefix(ones, ones, 128)}},
	} {
		if got := spread.Keys(x.p, x.n); !slices.Equal(got, x.want) {
			t.Errorf("P401: Keys(%x, %d) = %x, want %x", x.p, x.n, got, x.want)
		}
		if got := spread.Count(x.p, x.n); got != len(x.want) {
			t.Errorf("P401: Count(%x, %d) = %d, want %d", x.p, x.n, got, len(x.want))
		}
	}
}

// TestEachLengthToEachLength holds both calls, from each length to each length, against the plain form, which MaxSpread cuts off behind 8 bits.
func TestEachLengthToEachLength(t *testing.T) {
	for _, a := range samples {
		for from := range 129 {
			p := api.Prefix{Addr: addr.Cut(a, from), Len: from}
			for to := range 129 {
				if to < from || to > from+8 {
					if !nothing(p, to) {
						t.Errorf("P401: %x to %d: %d keys, want none", p, to, spread.Count(p, to))
					}
					continue
				}
				want := plain(p, to)
				if got := spread.Keys(p, to); !slices.Equal(got, want) {
					t.Errorf("P401: Keys(%x, %d) = %x, want %x", p, to, got, want)
				}
				if got := spread.Count(p, to); got != len(want) {
					t.Errorf("P401: Count(%x, %d) = %d, want %d", p, to, got, len(want))
				}
			}
		}
	}
}

// TestKeysAreAllThatItHas holds the keys to the promise's own words; as many as there are that differ, none can be missing.
func TestKeysAreAllThatItHas(t *testing.T) {
	for _, a := range samples {
		for from := range 129 {
			p := api.Prefix{Addr: addr.Cut(a, from), Len: from}
			for to := from; to <= min(from+8, 128); to++ {
				keys := spread.Keys(p, to)
				if want := int(math.Pow(2, float64(to-from))); len(keys) != want || want > api.MaxSpread {
					t.Errorf("P401: Keys(%x, %d): %d, want %d", p, to, len(keys), want)
				}
				for i, k := range keys {
					if k.Len != to || !addr.Right(k) || !addr.Has(p, k.Addr) {
						t.Errorf("P401: Keys(%x, %d): %x is none", p, to, k)
					}
					if i > 0 && !addr.Less(keys[i-1], k) {
						t.Errorf("P401: Keys(%x, %d): %x stands behind %x", p, to, k, keys[i-1])
					}
				}
			}
		}
	}
}

func TestAsManyAsMaxSpreadAndNoMore(t *testing.T) {
	for from := range 129 {
		p := prefix(0, 0, from)
		for to := from; to <= 128; to++ {
			want := 0
			if to-from <= 8 {
				want = 1 << (to - from)
			}
			if got := spread.Count(p, to); got != want || len(spread.Keys(p, to)) != want {
				t.Errorf("P401: from %d to %d: %d keys, want %d", from, to, got, want)
			}
		}
	}
	if got := spread.Count(prefix(0, 0, 120), 128); got != api.MaxSpread {
		t.Errorf("P401: Count of eight bits more = %d, want %d", got, api.MaxSpread)
	}
}

func TestToLengthsThatNoneHas(t *testing.T) {
	for _, a := range samples {
		for from := range 129 {
			p := api.Prefix{Addr: addr.Cut(a, from), Len: from}
			for _, to := range append([]int{from - 1}, wild...) {
				if !nothing(p, to) {
					t.Errorf("P401: %x to %d: %d keys, want none", p, to, spread.Count(p, to))
				}
			}
		}
	}
}

func TestOfPrefixesThatAreNotRight(t *testing.T) {
	var wrong []api.Prefix
	for _, n := range wild {
		for _, a := range samples {
			wrong = append(wrong, api.Prefix{Addr: a, Len: n})
		}
	}
	for n := range 128 {
		for i := n; i < 128; i++ {
			wrong = append(wrong, api.Prefix{Addr: set(addr.Cut(samples[1], n), i), Len: n})
		}
	}
	for _, p := range wrong {
		// Near the length they would have, and far from it.
		for more := range 10 {
			if !nothing(p, p.Len+more) {
				t.Fatalf("P401: %x to %d: keys of what is no prefix", p, p.Len+more)
			}
		}
		for _, n := range append([]int{0, 1, 8, 63, 64, 65, 127, 128}, wild...) {
			if !nothing(p, n) {
				t.Fatalf("P401: %x to %d: keys of what is no prefix", p, n)
			}
		}
	}
}

func TestKeysAreNewMemory(t *testing.T) {
	p := prefix(10<<56, 0, 8)
	want := plain(p, 12)
	first, second := spread.Keys(p, 12), spread.Keys(p, 12)
	for i := range first {
		first[i] = prefix(ones, ones, -1)
	}
	_ = append(first[:0], prefix(1, 2, 3))
	if !slices.Equal(second, want) || !slices.Equal(spread.Keys(p, 12), want) {
		t.Error("P402: what was done to one answer is seen in another")
	}
}

// answers tells what both calls answer, from and to lengths right and wrong.
func answers() []any {
	var out []any
	for _, a := range samples {
		for _, from := range append([]int{0, 1, 56, 60, 63, 64, 65, 120, 127, 128}, wild...) {
			for more := range 10 {
				for _, p := range []api.Prefix{{Addr: a, Len: from}, {Addr: addr.Cut(a, from), Len: from}} {
					out = append(out, spread.Count(p, from+more))
					for _, k := range spread.Keys(p, from+more) {
						out = append(out, k)
					}
				}
			}
		}
	}
	return out
}

func TestAnswersHangOnArgumentsAlone(t *testing.T) {
	first := answers()
	again := make([][]any, 8)
	var wait sync.WaitGroup
	for i := range again {
		wait.Go(func() { again[i] = answers() })
	}
	wait.Wait()
	for _, got := range again {
		if !slices.Equal(got, first) {
			t.Fatal("P402: the same arguments, another answer")
		}
	}
}
