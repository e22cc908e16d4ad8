package mixer_test

import (
	"math"
	"math/big"
	"slices"
	"sync"
	"testing"

	"flocculus/addr"
	"flocculus/api"
	"flocculus/mixer"
)

const ones = math.MaxUint64

// words are numbers of 64 bits with bits at the edges, and with each bit alone.
var words = func() []uint64 {
	out := []uint64{0, ones, ones - 1, ones >> 1, 3, 7, 0x2A, 10 << 56, 0x20010DB885A30000, 0xAAAAAAAAAAAAAAAA, 0x5555555555555555, 0x0123456789ABCDEF, 0x9E3779B97F4A7C15, 0x61C8864680B583EA, 0x61C8864680B583EB, 0xBF58476D1CE4E5B9, 0x94D049BB133111EB}
	for i := range 64 {
		out = append(out, 1<<i)
	}
	return out
}()

// lengths are lengths that prefixes have, and such as none has.
var lengths = []int{0, 1, 7, 8, 32, 63, 64, 65, 127, 128, -1, -8, -128, 129, 256, 1 << 40, math.MinInt32, math.MaxInt32, math.MinInt, math.MinInt + 1, math.MaxInt}

func prefix(hi, lo uint64, n int) api.Prefix {
	return api.Prefix{Addr: api.Addr{Hi: hi, Lo: lo}, Len: n}
}

func hex(s string) *big.Int {
	n, _ := new(big.Int).SetString(s, 16)
	return n
}

// plain mixes numbers of any size, and throws away what goes beyond 64 bits: the form against which Mix is held.
func plain(x uint64) uint64 {
	beyond := new(big.Int).Lsh(big.NewInt(1), 64)
	n := new(big.Int).SetUint64(x)
	shifted := func(by uint) *big.Int { return new(big.Int).Rsh(n, by) }
	n.Add(n, hex("9E3779B97F4A7C15")).Mod(n, beyond)
	n.Xor(n, shifted(30))
	n.Mul(n, hex("BF58476D1CE4E5B9")).Mod(n, beyond)
	n.Xor(n, shifted(27))
	n.Mul(n, hex("94D049BB133111EB")).Mod(n, beyond)
	n.Xor(n, shifted(31))
	return n.Uint64()
}

// unmix finds what was mixed, step by step from the last one back.
func unmix(x uint64) uint64 {
	x = unshift(x, 31) * inverse(0x94D049BB133111EB)
	x = unshift(x, 27) * inverse(0xBF58476D1CE4E5B9)
	return unshift(x, 30) - 0x9E3779B97F4A7C15
}

// unshift finds the y with y xor y >> by = x: by more of its first bits come right each time.
func unshift(x uint64, by int) uint64 {
	y := x
	for range 64/by + 1 {
		y = x ^ y>>by
	}
	return y
}

// inverse is the number that times m makes 1: as many again of its last bits come right each time.
func inverse(m uint64) uint64 {
	n := m
	for range 6 {
		n *= 2 - m*n
	}
	return n
}

func TestMixOfSome(t *testing.T) {
	for _, x := range []struct{ x, want uint64 }{
		{0, 0xE220A8397B1DCDAF},
		{1, 0x910A2DEC89025CC1},
		{1 << 63, 0x481EC0A212A9F3DB},
		{ones, 0xE4D971771B652C20},
		// The sum just does not go beyond 64 bits, and just does.
		{0x61C8864680B583EA, 0xB4D055FCF2CBBD7B},
		{0x61C8864680B583EB, 0},
		{0x9E3779B97F4A7C15, 0x6E789E6AA1B965F4},
	} {
		if got := mixer.Mix(x.x); got != x.want {
			t.Errorf("P501: Mix(%#x) = %#x, want %#x", x.x, got, x.want)
		}
	}
}

// TestMixIsTheLastHalfOfSplitMix64 holds Mix to the numbers that are known of that generator, from 1234567 on.
func TestMixIsTheLastHalfOfSplitMix64(t *testing.T) {
	state := uint64(1234567)
	for _, want := range []uint64{6457827717110365317, 3203168211198807973, 9817491932198370423, 4593380528125082431, 16408922859458223821} {
		if got := mixer.Mix(state); got != want {
			t.Errorf("P501: Mix(%d) = %d, want %d", state, got, want)
		}
		state += 0x9E3779B97F4A7C15
	}
}

func TestMixAgainstAPlainForm(t *testing.T) {
	for _, a := range words {
		for _, b := range words {
			for _, x := range []uint64{a ^ b, a + b, a - b} {
				if got, want := mixer.Mix(x), plain(x); got != want {
					t.Fatalf("P501: Mix(%#x) = %#x, want %#x", x, got, want)
				}
			}
		}
	}
	x := uint64(0)
	for range 5000 {
		got, want := mixer.Mix(x), plain(x)
		if got != want {
			t.Fatalf("P501: Mix(%#x) = %#x, want %#x", x, got, want)
		}
		x = want + 1
	}
}

func TestMixLosesNothing(t *testing.T) {
	for _, a := range words {
		for _, b := range words {
			if got := unmix(mixer.Mix(a ^ b)); got != a^b {
				t.Fatalf("P501: Mix(%#x) is also that of %#x", a^b, got)
			}
		}
	}
}

func TestHashOfSome(t *testing.T) {
	for _, x := range []struct {
		seed uint64
		p    api.Prefix
		want uint64
	}{
		{0, prefix(0, 0, 0), 0x238275BC38FCBE91},
		{1, prefix(0, 0, 0), 0xB18A02F46D8D86C3},
		{0, prefix(1, 0, 0), 0xB18A02F46D8D86C3},
		{5, prefix(5, 0, 0), 0x238275BC38FCBE91},
		{0, prefix(0, 1, 0), 0x44E5B98100C67FB0},
		{0, prefix(0, 0, 1), 0x2F32A78496C67C60},
		{0, prefix(10<<56, 0, 8), 0x8191BFA6F0F92CD7},
		{7, prefix(10<<56, 0, 8), 0xE777E918786FCB90},
		{7, prefix(0, 10<<56, 8), 0x061702AFE5C208A0},
		{0x0123456789ABCDEF, prefix(0x20010DB885A30000, 0x00008A2E03707334, 128), 0xFF13C5603DC2F81D},
		{ones, prefix(ones, ones, 128), 0xDBA5D590E8BCC204},
		// What is no prefix is hashed as it stands, a length below 0 as its 64 bits.
		{0, prefix(0, 0, -1), 0xB6FE22F87B0FA15A},
		{0, prefix(0, 0, 129), 0xDA858EBB3F07A691},
		{0, prefix(0, 0, math.MinInt64), 0x0B19AA26271F7EE5},
		{0, prefix(0, 0, math.MaxInt64), 0x2604E972B90B510D},
		{3, prefix(ones, ones, 8), 0x08915A50E4FED731},
	} {
		if got := mixer.Hash(x.seed, x.p); got != x.want {
			t.Errorf("P501: Hash(%#x, %x) = %#x, want %#x", x.seed, x.p, got, x.want)
		}
	}
}

// samples are prefixes of all lengths that are Right, and of all lengths and bits that are not.
func samples() []api.Prefix {
	var out []api.Prefix
	for i, hi := range words {
		a := api.Addr{Hi: hi, Lo: words[len(words)-1-i]}
		for n := range 129 {
			out = append(out, api.Prefix{Addr: addr.Cut(a, n), Len: n})
		}
		for _, n := range lengths {
			out = append(out, api.Prefix{Addr: a, Len: n}, api.Prefix{Len: n})
		}
	}
	return out
}

func TestHashAgainstAPlainForm(t *testing.T) {
	for i, p := range samples() {
		seed := words[i%len(words)]
		want := plain(plain(plain(seed^p.Addr.Hi)^p.Addr.Lo) ^ uint64(int64(p.Len)))
		if got := mixer.Hash(seed, p); got != want {
			t.Fatalf("P501: Hash(%#x, %x) = %#x, want %#x", seed, p, got, want)
		}
	}
}

// TestHashCountsEachPart takes a hash apart, part by part from the last one back: none can have been left out.
func TestHashCountsEachPart(t *testing.T) {
	for i, p := range samples() {
		seed := words[i%len(words)]
		rest := unmix(mixer.Hash(seed, p)) ^ uint64(p.Len)
		rest = unmix(rest) ^ p.Addr.Lo
		rest = unmix(rest) ^ p.Addr.Hi
		if rest != seed {
			t.Fatalf("P501: Hash(%#x, %x): without its parts it is that of the seed %#x", seed, p, rest)
		}
	}
}

// answers tells what both calls answer.
func answers() []uint64 {
	var out []uint64
	for _, x := range words {
		out = append(out, mixer.Mix(x))
	}
	for i, p := range samples() {
		out = append(out, mixer.Hash(words[i%len(words)], p))
	}
	return out
}

func TestAnswersHangOnArgumentsAlone(t *testing.T) {
	want := answers()
	again := make([][]uint64, 8)
	var wait sync.WaitGroup
	for i := range again {
		wait.Go(func() { again[i] = answers() })
	}
	wait.Wait()
	for _, got := range again {
		if !slices.Equal(got, want) {
			t.Fatal("P502: the same arguments, another answer")
		}
	}
	// From the last to the first: no call hears of the one ahead of it.
	all := samples()
	for i, p := range slices.Backward(all) {
		if got := mixer.Hash(words[i%len(words)], p); got != want[len(words)+i] {
			t.Fatalf("P502: Hash of %x is another one when asked in another order", p)
		}
	}
}
