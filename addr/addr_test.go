package addr_test

import (
	"math"
	"slices"
	"sync"
	"testing"

	"flocculus/addr"
	"flocculus/api"
)

const ones = math.MaxUint64

var allOn = api.Addr{Hi: ones, Lo: ones}

// samples are addresses with bits at, and on both sides of, every edge that the calls have.
var samples = []api.Addr{
	{},
	allOn,
	{Hi: 1 << 63},
	{Hi: 1},
	{Lo: 1 << 63},
	{Lo: 1},
	{Hi: ones},
	{Lo: ones},
	{Hi: 0x20010DB885A30000, Lo: 0x00008A2E03707334},
	{Hi: 0xAAAAAAAAAAAAAAAA, Lo: 0x5555555555555555},
	{Hi: 0x0123456789ABCDEF, Lo: 0xFEDCBA9876543210},
	{Hi: 10 << 56},
}

// digits writes an address as its 128 bits, a byte each: the plain form against which the calls are held.
func digits(a api.Addr) []byte {
	out := make([]byte, 128)
	for i := range 64 {
		out[63-i] = byte(a.Hi % 2)
		out[127-i] = byte(a.Lo % 2)
		a.Hi /= 2
		a.Lo /= 2
	}
	return out
}

// fromDigits reads back what digits writes.
func fromDigits(d []byte) api.Addr {
	var a api.Addr
	for i := range 64 {
		a.Hi = a.Hi*2 + uint64(d[i])
		a.Lo = a.Lo*2 + uint64(d[64+i])
	}
	return a
}

// flip turns one bit round.
func flip(a api.Addr, i int) api.Addr {
	d := digits(a)
	d[i] = 1 - d[i]
	return fromDigits(d)
}

// onlyFirst leaves the first n bits.
func onlyFirst(a api.Addr, n int) api.Addr {
	d := digits(a)
	clear(d[n:])
	return fromDigits(d)
}

func prefix(hi, lo uint64, n int) api.Prefix {
	return api.Prefix{Addr: api.Addr{Hi: hi, Lo: lo}, Len: n}
}

func TestBitOfOneBitOn(t *testing.T) {
	for _, on := range []struct {
		a api.Addr
		i int
	}{
		{api.Addr{Hi: 1 << 63}, 0},
		{api.Addr{Hi: 1 << 62}, 1},
		{api.Addr{Hi: 1}, 63},
		{api.Addr{Lo: 1 << 63}, 64},
		{api.Addr{Lo: 2}, 126},
		{api.Addr{Lo: 1}, 127},
	} {
		for i := range 128 {
			want := 0
			if i == on.i {
				want = 1
			}
			if got := addr.Bit(on.a, i); got != want {
				t.Errorf("P101: Bit(%x, %d) = %d, want %d", on.a, i, got, want)
			}
		}
	}
}

func TestBitOfSamples(t *testing.T) {
	for _, a := range samples {
		for i, want := range digits(a) {
			if got := addr.Bit(a, i); got != int(want) {
				t.Errorf("P101: Bit(%x, %d) = %d, want %d", a, i, got, want)
			}
		}
	}
}

func TestBitThatIsNone(t *testing.T) {
	for _, i := range []int{-1, -64, -128, 128, 129, 192, 256, math.MinInt, math.MaxInt, math.MinInt32, math.MaxInt32} {
		if got := addr.Bit(allOn, i); got != 0 {
			t.Errorf("P101: Bit(all, %d) = %d, want 0", i, got)
		}
	}
}

func TestCut(t *testing.T) {
	for _, a := range samples {
		for n := range 129 {
			if got, want := addr.Cut(a, n), onlyFirst(a, n); got != want {
				t.Errorf("P101: Cut(%x, %d) = %x, want %x", a, n, got, want)
			}
		}
	}
}

func TestCutEdges(t *testing.T) {
	for _, c := range []struct {
		n    int
		want api.Addr
	}{
		{0, api.Addr{}},
		{1, api.Addr{Hi: 1 << 63}},
		{63, api.Addr{Hi: ones - 1}},
		{64, api.Addr{Hi: ones}},
		{65, api.Addr{Hi: ones, Lo: 1 << 63}},
		{127, api.Addr{Hi: ones, Lo: ones - 1}},
		{128, allOn},
		{-1, api.Addr{}},
		{math.MinInt, api.Addr{}},
		{129, allOn},
		{192, allOn},
		{math.MaxInt, allOn},
	} {
		if got := addr.Cut(allOn, c.n); got != c.want {
			t.Errorf("P101: Cut(all, %d) = %x, want %x", c.n, got, c.want)
		}
	}
}

func TestRightUpToItsLength(t *testing.T) {
	for _, a := range samples {
		for n := range 129 {
			p := api.Prefix{Addr: onlyFirst(a, n), Len: n}
			if !addr.Right(p) {
				t.Errorf("P101: Right(%x) = false", p)
			}
			for i := n; i < 128; i++ {
				wrong := api.Prefix{Addr: flip(p.Addr, i), Len: n}
				if addr.Right(wrong) {
					t.Errorf("P101: Right(%x) = true: bit %d is behind the length", wrong, i)
				}
			}
		}
	}
}

func TestRightOfLengthsOutOfRange(t *testing.T) {
	for _, n := range []int{-1, -128, 129, 192, 256, math.MinInt, math.MaxInt} {
		for _, a := range []api.Addr{{}, allOn} {
			if addr.Right(api.Prefix{Addr: a, Len: n}) {
				t.Errorf("P101: Right(%x, %d) = true", a, n)
			}
		}
	}
}

func TestHasByEachBit(t *testing.T) {
	for _, a := range samples {
		for n := range 129 {
			p := api.Prefix{Addr: onlyFirst(a, n), Len: n}
			if !addr.Has(p, a) || !addr.Has(p, p.Addr) {
				t.Errorf("P101: Has(%x, %x) = false", p, a)
			}
			for i := range 128 {
				if got, want := addr.Has(p, flip(a, i)), i >= n; got != want {
					t.Errorf("P101: Has(%x, %x but bit %d) = %v", p, a, i, got)
				}
			}
		}
	}
}

func TestHasOfWrongPrefixes(t *testing.T) {
	for _, c := range []struct {
		what string
		p    api.Prefix
	}{
		{"a length below 0", prefix(0, 0, -1)},
		{"the least length", prefix(0, 0, math.MinInt)},
		{"a length above 128", prefix(0, 0, 129)},
		{"the greatest length", prefix(0, 0, math.MaxInt)},
		{"all on, a length above 128", prefix(ones, ones, 129)},
		{"a bit behind length 0", prefix(0, 1, 0)},
		{"a bit just behind length 8", prefix(10<<56|1<<55, 0, 8)},
		{"a bit just behind length 64", prefix(ones, 1<<63, 64)},
		{"a bit just behind length 127", prefix(0, 1, 127)},
	} {
		for _, a := range append([]api.Addr{c.p.Addr}, samples...) {
			if addr.Has(c.p, a) {
				t.Errorf("P101: %s: Has(%x, %x) = true", c.what, c.p, a)
			}
		}
	}
}

func TestCommon(t *testing.T) {
	for _, a := range samples {
		if got := addr.Common(a, a); got != 128 {
			t.Errorf("P101: Common(%x, itself) = %d, want 128", a, got)
		}
		for i := range 128 {
			alone := flip(a, i)
			// What differs behind the first bit that does must not count.
			rest := digits(alone)
			for j := i + 1; j < 128; j++ {
				rest[j] = 1 - rest[j]
			}
			for _, b := range []api.Addr{alone, fromDigits(rest)} {
				if addr.Common(a, b) != i || addr.Common(b, a) != i {
					t.Errorf("P101: Common of %x, %x = %d, %d, want %d", a, b, addr.Common(a, b), addr.Common(b, a), i)
				}
			}
		}
	}
}

// rising are prefixes, each Less than all behind it; many are not Right, as Less asks for no such thing.
var rising = []api.Prefix{
	prefix(0, 0, math.MinInt),
	prefix(0, 0, -1),
	prefix(0, 0, 0),
	prefix(0, 0, 1),
	prefix(0, 0, 128),
	prefix(0, 0, math.MaxInt),
	prefix(0, 1, 0),
	prefix(0, 1, 128),
	prefix(0, math.MaxInt64, 128),
	prefix(0, 1<<63, 65),
	prefix(0, ones, math.MinInt),
	prefix(1, 0, 64),
	prefix(1, ones, 0),
	prefix(2, 0, -7),
	prefix(10<<56, 0, 7),
	prefix(10<<56, 0, 8),
	prefix(10<<56, 1, 7),
	prefix(math.MaxInt64, 0, 3),
	prefix(1<<63, 0, 1),
	prefix(ones, 0, 64),
	prefix(ones, ones, 0),
	prefix(ones, ones, 128),
}

func TestLess(t *testing.T) {
	for i, a := range rising {
		for j, b := range rising {
			if got := addr.Less(a, b); got != (i < j) {
				t.Errorf("P101: Less(%x, %x) = %v", a, b, got)
			}
		}
	}
}

// answers tells what every call answers to the samples.
func answers() []any {
	var out []any
	for _, a := range samples {
		for _, n := range []int{math.MinInt, -1, 0, 1, 63, 64, 65, 127, 128, 129, math.MaxInt} {
			cut := addr.Cut(a, n)
			p, q := api.Prefix{Addr: a, Len: n}, api.Prefix{Addr: cut, Len: n}
			out = append(out, addr.Bit(a, n), cut, addr.Right(p), addr.Right(q), addr.Has(q, a), addr.Common(a, cut), addr.Less(p, q), addr.Less(q, p))
		}
	}
	return out
}

func TestAnswersHangOnArgumentsAlone(t *testing.T) {
	first := answers()
	again := make([][]any, 8)
	var wait sync.WaitGroup
	for i := range again {
		wait.Go(func() { again[i] = answers() })
	}
	wait.Wait()
	for _, got := range again {
		if !slices.Equal(got, first) {
			t.Fatal("P102: the same arguments, another answer")
		}
	}
}

func TestNothingPanics(t *testing.T) {
	numbers := []int{math.MinInt, math.MinInt64 + 64, -128, -65, -64, -1, 0, 63, 64, 65, 127, 128, 129, 1 << 40, math.MaxInt - 64, math.MaxInt}
	for _, a := range samples {
		for _, n := range numbers {
			p := api.Prefix{Addr: a, Len: n}
			if addr.Bit(a, n)&^1 != 0 {
				t.Errorf("P101: Bit(%x, %d) is neither 0 nor 1", a, n)
			}
			if addr.Has(p, a) != addr.Right(p) {
				t.Errorf("P101: Has(%x, its own address) is not Right", p)
			}
			if c := addr.Common(a, addr.Cut(a, n)); c < max(0, min(n, 128)) {
				t.Errorf("P101: Cut(%x, %d) turned bit %d", a, n, c)
			}
		}
	}
}
