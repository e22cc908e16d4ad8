package pick_test

import (
	"math"
	"math/big"
	"slices"
	"sync"
	"testing"

	"flocculus/addr"
	"flocculus/api"
	"flocculus/mixer"
	"flocculus/pick"
)

const ones = math.MaxUint64

// words are numbers of 64 bits with bits at the edges, and with each bit alone.
var words = func() []uint64 {
	out := []uint64{0, ones, ones - 1, ones >> 1, 3, 7, 0x2A, 10 << 56, 0x20010DB885A30000, 0xAAAAAAAAAAAAAAAA, 0x5555555555555555, 0x0123456789ABCDEF, 0x9E3779B97F4A7C15}
	for i := range 64 {
		out = append(out, 1<<i)
	}
	return out
}()

// ranges are numbers of places that there can be, and such as leave none.
var ranges = []int{1, 2, 3, 4, 7, 8, 100, 255, 1000, 4096, api.MaxBits - 1, api.MaxBits, api.MaxBits + 1, math.MaxInt32, 1 << 40, 1 << 62, math.MaxInt - 1, math.MaxInt, 0, -1, -2, -api.MaxBits, math.MinInt32, math.MinInt + 1, math.MinInt}

// counts are numbers of places that a key can have, and such as are cut.
var counts = []int{0, 1, 2, 3, 4, 8, 15, 16, 17, 18, 32, 1 << 16, math.MaxInt32, 1 << 40, math.MaxInt, -1, -2, -16, -17, math.MinInt32, math.MinInt}

func prefix(hi, lo uint64, n int) api.Prefix {
	return api.Prefix{Addr: api.Addr{Hi: hi, Lo: lo}, Len: n}
}

// samples are prefixes of lengths that prefixes have, and some that are not Right.
func samples() []api.Prefix {
	var out []api.Prefix
	for i, hi := range words {
		a := api.Addr{Hi: hi, Lo: words[len(words)-1-i]}
		for _, n := range []int{0, 1, 7, 8, 24, 32, 63, 64, 65, 127, 128} {
			out = append(out, api.Prefix{Addr: addr.Cut(a, n), Len: n})
		}
		for _, n := range []int{8, -1, 129, math.MinInt, math.MaxInt} {
			out = append(out, api.Prefix{Addr: a, Len: n})
		}
	}
	return out
}

// plain is Reduce in numbers of any size: the form against which it is held.
func plain(x uint64, m int) int {
	if m < 1 {
		return 0
	}
	product := new(big.Int).Mul(new(big.Int).SetUint64(x), big.NewInt(int64(m)))
	return int(product.Rsh(product, 64).Int64())
}

// plainPlaces makes each place for itself, of numbers of any size.
func plainPlaces(seed uint64, p api.Prefix, k, m int) []int {
	if m < 1 {
		return nil
	}
	beyond := new(big.Int).Lsh(big.NewInt(1), 64)
	h := mixer.Hash(seed, p)
	g := new(big.Int).SetUint64(mixer.Mix(h))
	g.SetBit(g, 0, 1)
	var out []int
	for i := range min(max(k, 0), 16) {
		at := new(big.Int).Mul(g, big.NewInt(int64(i)))
		at.Add(at, new(big.Int).SetUint64(h)).Mod(at, beyond)
		out = append(out, plain(at.Uint64(), m))
	}
	return out
}

func TestReduceOfSome(t *testing.T) {
	for _, x := range []struct {
		x    uint64
		m    int
		want int
	}{
		{0, 1, 0}, {0, 5, 0}, {0, math.MaxInt, 0},
		{ones, 1, 0}, {ones, 2, 1}, {ones, 5, 4}, {ones, api.MaxBits, api.MaxBits - 1}, {ones, math.MaxInt, math.MaxInt - 1},
		{1 << 63, 1, 0}, {1 << 63, 2, 1}, {1<<63 - 1, 2, 0}, {1 << 63, 3, 1}, {1 << 63, 5, 2}, {1 << 63, math.MaxInt, 1<<62 - 1},
		{1, 1 << 62, 0}, {3, 1 << 62, 0}, {4, 1 << 62, 1}, {8, 1 << 62, 2},
		{0x0123456789ABCDEF, 1000, 4}, {0x9E3779B97F4A7C15, 1 << 16, 0x9E37},
		// Nothing lies in no room, nor in less than none.
		{ones, 0, 0}, {ones, -1, 0}, {1 << 63, -2, 0}, {ones, math.MinInt, 0}, {ones, math.MinInt + 1, 0}, {0, -1, 0},
	} {
		if got := pick.Reduce(x.x, x.m); got != x.want {
			t.Errorf("P601: Reduce(%#x, %d) = %d, want %d", x.x, x.m, got, x.want)
		}
	}
}

func TestReduceAgainstAPlainForm(t *testing.T) {
	for _, a := range words {
		for _, b := range words {
			for _, m := range ranges {
				x := a ^ b
				got := pick.Reduce(x, m)
				if want := plain(x, m); got != want {
					t.Fatalf("P601: Reduce(%#x, %d) = %d, want %d", x, m, got, want)
				}
				if got < 0 || m > 0 && got >= m {
					t.Fatalf("P601: Reduce(%#x, %d) = %d, which is no place", x, m, got)
				}
			}
		}
	}
}

// TestReduceLeadsToEachInEvenShares walks over all numbers in even strides.
func TestReduceLeadsToEachInEvenShares(t *testing.T) {
	for _, m := range []int{1, 2, 3, 7, 10, 64, 1000} {
		share := make([]int, m)
		last := 0
		for i := range uint64(1 << 16) {
			at := pick.Reduce(i<<48, m)
			if at < last {
				t.Fatalf("P601: Reduce(%#x, %d) = %d, less than what a lower number leads to", i<<48, m, at)
			}
			share[at]++
			last = at
		}
		if slices.Max(share)-slices.Min(share) > 1 {
			t.Errorf("P601: Reduce to below %d has shares from %d to %d", m, slices.Min(share), slices.Max(share))
		}
	}
}

func TestPlacesOfSome(t *testing.T) {
	ten := prefix(10<<56, 0, 8)
	for _, x := range []struct {
		seed uint64
		p    api.Prefix
		k, m int
		want []int
	}{
		{0, prefix(0, 0, 0), 4, 1000, []int{138, 268, 398, 527}},
		{7, ten, 16, 65536, []int{59255, 20748, 47776, 9268, 36296, 63324, 24816, 51845, 13337, 40365, 1857, 28885, 55913, 17406, 44434, 5926}},
		{7, ten, 17, 65536, []int{59255, 20748, 47776, 9268, 36296, 63324, 24816, 51845, 13337, 40365, 1857, 28885, 55913, 17406, 44434, 5926}},
		{7, ten, 1, 65536, []int{59255}},
		// The same place more than once.
		{7, ten, 16, 3, []int{2, 0, 2, 0, 1, 2, 1, 2, 0, 1, 0, 1, 2, 0, 2, 0}},
		{7, ten, 5, 1, []int{0, 0, 0, 0, 0}},
		{0, prefix(0, 0, -1), 3, 1 << 40, []int{785947752571, 80043507333, 473650889871}},
		{ones, prefix(ones, ones, 128), 3, math.MaxInt, []int{7913645641910083841, 7474321288104080305, 7034996934298076770}},
		{7, ten, 0, 65536, nil},
		{7, ten, -1, 65536, nil},
		{7, ten, math.MinInt, 65536, nil},
		{7, ten, 4, 0, nil},
		{7, ten, 4, -1, nil},
		{7, ten, 4, math.MinInt, nil},
		{7, ten, -1, -1, nil},
	} {
		if got := pick.Places(x.seed, x.p, x.k, x.m); !slices.Equal(got, x.want) {
			t.Errorf("P601: Places(%#x, %x, %d, %d) = %v, want %v", x.seed, x.p, x.k, x.m, got, x.want)
		}
	}
}

func TestPlacesAgainstAPlainForm(t *testing.T) {
	for i, p := range samples() {
		seed := words[i%len(words)]
		for j := range ranges {
			k, m := counts[(i+j)%len(counts)], ranges[j]
			if got, want := pick.Places(seed, p, k, m), plainPlaces(seed, p, k, m); !slices.Equal(got, want) {
				t.Fatalf("P601: Places(%#x, %x, %d, %d) = %v, want %v", seed, p, k, m, got, want)
			}
		}
	}
	for _, k := range counts {
		for _, m := range ranges {
			if got, want := pick.Places(1, prefix(0, 0, 0), k, m), plainPlaces(1, prefix(0, 0, 0), k, m); !slices.Equal(got, want) {
				t.Fatalf("P601: Places of the key 0, %d of %d: %v, want %v", k, m, got, want)
			}
		}
	}
}

// TestPlacesStepIsOdd asks for places so fine that the step between the first and the last is to be seen: were it even where Mix(h) is, it would be another one.
func TestPlacesStepIsOdd(t *testing.T) {
	even := 0
	for i, p := range samples() {
		seed := words[i%len(words)]
		h := mixer.Hash(seed, p)
		if mixer.Mix(h)&1 == 0 {
			even++
		}
		places := pick.Places(seed, p, 16, math.MaxInt)
		// Reduce to MaxInt halves, and takes at most 1 off.
		last := int((h + 15*(mixer.Mix(h)|1)) >> 1)
		if off := last - places[15]; off < 0 || off > 1 {
			t.Fatalf("P601: Places of %x under %#x end at %d, want %d or 1 less", p, seed, places[15], last)
		}
	}
	if even == 0 {
		t.Fatal("no sample has an even Mix(h)")
	}
}

func TestBucketsOfSome(t *testing.T) {
	ten := prefix(10<<56, 0, 8)
	for _, x := range []struct {
		seed          uint64
		p             api.Prefix
		n             int
		first, second int
	}{
		{0, prefix(0, 0, 0), 1000, 165, 310},
		{7, ten, 65536, 15632, 32201},
		{7, ten, 8, 1, 3},
		{7, ten, 1, 0, 0},
		// Both are the same one.
		{0, prefix(0, 0, 1), 4, 0, 0},
		{0, prefix(0, 0, 3), 4, 3, 3},
		// The first one is the higher.
		{0, prefix(0, 0, 2), 4, 3, 1},
		{0, prefix(0, 0, -1), 100, 19, 81},
		{ones, prefix(ones, ones, 128), math.MaxInt, 9074905626502432387, 6352284625397117878},
		{7, ten, 0, 0, 0},
		{7, ten, -1, 0, 0},
		{7, ten, math.MinInt, 0, 0},
	} {
		first, second := pick.Buckets(x.seed, x.p, x.n)
		if first != x.first || second != x.second {
			t.Errorf("P601: Buckets(%#x, %x, %d) = %d, %d, want %d, %d", x.seed, x.p, x.n, first, second, x.first, x.second)
		}
	}
}

func TestBucketsAgainstAPlainForm(t *testing.T) {
	for i, p := range samples() {
		seed := words[i%len(words)]
		h := mixer.Hash(seed, p)
		for _, n := range ranges {
			first, second := pick.Buckets(seed, p, n)
			if first != plain(mixer.Mix(h^1), n) || second != plain(mixer.Mix(h^2), n) {
				t.Fatalf("P601: Buckets(%#x, %x, %d) = %d, %d, want %d, %d", seed, p, n, first, second, plain(mixer.Mix(h^1), n), plain(mixer.Mix(h^2), n))
			}
		}
	}
}

// answers tells what all calls answer.
func answers() []int {
	var out []int
	for i, p := range samples() {
		seed := words[i%len(words)]
		k, m := counts[i%len(counts)], ranges[i%len(ranges)]
		first, second := pick.Buckets(seed, p, m)
		out = append(out, pick.Reduce(seed, m), first, second)
		out = append(out, pick.Places(seed, p, k, m)...)
	}
	return out
}

func TestAnswersHangOnArgumentsAlone(t *testing.T) {
	want := answers()
	again := make([][]int, 8)
	var wait sync.WaitGroup
	for i := range again {
		wait.Go(func() { again[i] = answers() })
	}
	wait.Wait()
	for _, got := range again {
		if !slices.Equal(got, want) {
			t.Fatal("P602: the same arguments, another answer")
		}
	}
}

func TestPlacesAreNewMemory(t *testing.T) {
	p := prefix(10<<56, 0, 8)
	one := pick.Places(7, p, 8, 1000)
	want := slices.Clone(one)
	two := pick.Places(7, p, 8, 1000)
	for i := range one {
		one[i] = -1
	}
	_ = append(one[:0], make([]int, cap(one))...)
	if !slices.Equal(two, want) || !slices.Equal(pick.Places(7, p, 8, 1000), want) {
		t.Error("P602: the places of one answer are those of another")
	}
	if p != prefix(10<<56, 0, 8) {
		t.Error("P602: the prefix that was handed in is another")
	}
}
