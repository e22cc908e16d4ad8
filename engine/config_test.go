package engine_test

import (
	"math"
	"math/big"
	"slices"
	"testing"

	"flocculus/api"
	"flocculus/edges"
	"flocculus/engine"
	"flocculus/levels"
)

// good is a config that there can be, of an address as IPv4 has it; steps are levels that fit it.
var (
	good  = api.Config{Width: 32, Direct: 8, Levels: 4, Stride: 6, Hashes: 3, Bits: 1000, Least: 10, Buckets: 4, Routes: 300, Hops: 60}
	steps = []int{14, 20, 26, 32}
)

// few is a config of one bit, with more levels and filter bits than that needs, so that most of its numbers can turn alone.
var few = api.Config{Width: 1, Levels: 128, Stride: 6, Hashes: 1, Bits: 1 << 30, Least: 1, Buckets: 1}

// numbers are those of a config, one after the other.
func numbers(c *api.Config) []*int {
	return []*int{&c.Width, &c.Direct, &c.Levels, &c.Stride, &c.Hashes, &c.Bits, &c.Least, &c.Buckets, &c.Routes, &c.Hops}
}

// The places of some of them.
const (
	width = iota
	direct
	most
	stride
	hashes
	bits
	least
	buckets
	routes
	hops
)

// with is c with its i-th number another one.
func with(c api.Config, i, n int) api.Config {
	*numbers(&c)[i] = n
	return c
}

// around are numbers at low and high, beside them, and ones that would be between if they were cut to fewer bits.
func around(low, high int) []int {
	out := append(edges.Wild(), 0, math.MaxInt-8, 1<<62)
	for _, n := range []int{low, high} {
		out = append(out, n-1, n, n+1, -n, n+1<<8, n+1<<16, n+1<<31, n+1<<32, n-1<<32)
	}
	return append(out, (low+high)/2, 2*high, high+high/2+1)
}

// right fails the test where Right is another.
func right(t *testing.T, what string, c api.Config, want bool) {
	t.Helper()
	if got := engine.Right(c); got != want {
		t.Fatalf("%s: Right of %+v is %v", what, c, got)
	}
}

// refused fails the test where New makes an engine.
func refused(t *testing.T, what string, c api.Config, l []int) {
	t.Helper()
	for _, counts := range [][]int{nil, make([]int, 129)} {
		if e, err := engine.New(c, 7, l, counts); e != nil || err != api.ErrArg {
			t.Fatalf("%s: New of %+v and %v: nil is %v, error %d, want nil and %d", what, c, l, e == nil, err, api.ErrArg)
		}
	}
}

// made makes an engine that there can be.
func made(t *testing.T, c api.Config, seed uint64, l, counts []int) *engine.Engine {
	t.Helper()
	e, err := engine.New(c, seed, l, counts)
	if e == nil || err != api.OK {
		t.Fatalf("P2201: New of %+v and %v: nil is %v, error %d", c, l, e == nil, err)
	}
	return e
}

// TestEachNumber has each number of a config at its edges, beside others that allow as many as there are at all.
func TestEachNumber(t *testing.T) {
	far := few
	far.Stride = 1
	full := few
	full.Width, full.Direct, full.Stride = 8, 8, 1
	none := full
	none.Levels = 0
	for _, x := range []struct {
		what           string
		c              api.Config
		at, low, high  int
		never, allowed int
	}{
		{"Width", far, width, 1, 128, 0, 64},
		{"Width above Direct", with(far, direct, 8), width, 8, 128, 7, 9},
		{"Direct", with(far, width, 128), direct, 0, 8, 9, 4},
		{"Direct of 5 bits", with(far, width, 5), direct, 0, 5, 6, 4},
		{"Direct of 1 bit", with(far, width, 1), direct, 0, 1, 2, 1},
		{"Levels", full, most, 0, 128, 129, 127},
		{"Stride", full, stride, 1, 6, 7, 3},
		{"Stride of some levels", good, stride, 6, 6, 5, 6},
		{"Hashes", good, hashes, 1, 16, 17, 15},
		{"Bits", none, bits, 1, 1 << 30, 0, 1 << 29},
		{"Bits of 4 levels", good, bits, 40, 1 << 30, 39, 1 << 29},
		{"Bits of 128 levels", full, bits, 128, 1 << 30, 127, 1 << 29},
		{"Bits of the greatest Least", with(full, least, api.MaxBits), bits, 128 * api.MaxBits, 1 << 30, 128*api.MaxBits - 1, 1 << 29},
		{"Least", few, least, 1, api.MaxBits, api.MaxBits + 1, api.MaxBits - 1},
		{"Least of few bits", with(none, bits, 10), least, 1, 10, 11, 9},
		{"Least of 4 levels", good, least, 1, 250, 251, 249},
		{"Buckets", good, buckets, 1, 1000, 1001, 999},
		{"Routes", good, routes, 0, api.MaxRoutes, api.MaxRoutes + 1, 1},
		{"Hops", good, hops, 0, api.MaxHops, api.MaxHops + 1, 1},
	} {
		right(t, "P2201: "+x.what, with(x.c, x.at, x.never), false)
		right(t, "P2201: "+x.what, with(x.c, x.at, x.allowed), true)
		for _, n := range around(x.low, x.high) {
			right(t, "P2201: "+x.what, with(x.c, x.at, n), n >= x.low && n <= x.high)
		}
	}
	right(t, "P2201: the zero config", api.Config{}, false)
}

// TestNumbersTogether has each pair of numbers, one of which can't be: no other mends it.
func TestNumbersTogether(t *testing.T) {
	over := []int{129, 33, 129, 7, 17, 1<<30 + 1, api.MaxBits + 1, 1001, 301, 61}
	for wrong, bad := range over {
		for _, n := range []int{bad, -1, math.MinInt, math.MaxInt, 1 << 32} {
			c := with(good, wrong, n)
			right(t, "P2201: one number that can't be", c, false)
			refused(t, "P2201: one number that can't be", c, steps)
			refused(t, "P2201: one number that can't be", c, nil)
			for other := range over {
				for _, m := range append(around(0, over[other]-1), 1, 8, 32) {
					if other != wrong {
						right(t, "P2201: beside one that can't be", with(c, other, m), false)
					}
				}
			}
		}
	}
}

// TestSomeLevelsAreRight holds Right against Choose, which tells whether there are any.
func TestSomeLevelsAreRight(t *testing.T) {
	ask := func(w, low, n, far int) bool {
		c := few
		c.Width, c.Direct, c.Levels, c.Stride = w, low, n, far
		_, err := levels.Choose(w, low, n, far, nil)
		right(t, "P2201: some levels are right", c, err == api.OK)
		return err == api.OK
	}
	for w := 1; w <= 12; w++ {
		for low := range min(w, 8) + 1 {
			for n := range 15 {
				for far := 1; far <= 6; far++ {
					ask(w, low, n, far)
				}
			}
		}
	}
	for _, w := range []int{32, 33, 63, 64, 65, 127, 128} {
		for _, low := range []int{0, 1, 7, 8} {
			for far := 1; far <= 6; far++ {
				n := (w - low + far - 1) / far
				if ask(w, low, n-1, far) || !ask(w, low, n, far) {
					t.Fatalf("P2201: %d levels of %d bits from %d to %d", n, far, low, w)
				}
			}
		}
	}
}

// TestBitsForEachLevel has as many bits as the levels need, and one less.
func TestBitsForEachLevel(t *testing.T) {
	for _, n := range []int{0, 1, 2, 3, 64, 127, 128} {
		for _, each := range []int{1, 2, 10, 1000, api.MaxBits - 1, api.MaxBits} {
			c := few
			c.Width, c.Direct, c.Levels, c.Least = 8, 8, n, each
			right(t, "P2201: as many as need be", with(c, bits, each*max(n, 1)), true)
			right(t, "P2201: one less", with(c, bits, each*max(n, 1)-1), false)
		}
	}
}

// TestWhichLevels makes engines of all lists of small levels, and of none but those that are right.
func TestWhichLevels(t *testing.T) {
	c := few
	c.Levels = 3
	var turn func(l []int)
	turn = func(l []int) {
		if !levels.Right(c.Width, c.Direct, c.Levels, c.Stride, l) {
			refused(t, "P2201: levels that are not right", c, l)
		} else if e := made(t, c, 7, l, nil); !slices.Equal(e.Levels(), l) {
			t.Fatalf("P2203: Levels of %v: %v", l, e.Levels())
		}
		for n := -1; n <= 7 && len(l) < 4; n++ {
			turn(append(slices.Clone(l), n))
		}
	}
	for _, x := range [][3]int{{6, 1, 2}, {6, 0, 2}, {5, 3, 1}, {4, 0, 6}, {3, 3, 1}} {
		c.Width, c.Direct, c.Stride = x[0], x[1], x[2]
		turn(nil)
	}
}

// TestLevelsThatCantBe has any number at each place, and one too many or too few.
func TestLevelsThatCantBe(t *testing.T) {
	made(t, good, 7, steps, nil)
	refused(t, "P2201: no levels", good, nil)
	refused(t, "P2201: one less", good, steps[:3])
	refused(t, "P2201: one more", good, append(slices.Clone(steps), 33))
	refused(t, "P2201: one more than Levels", good, []int{13, 14, 20, 26, 32})
	refused(t, "P2201: one too far", with(good, most, 3), steps)
	for i := range steps {
		for _, n := range append(around(8, 32), 0, 1, 7, 8, 33, 128) {
			if l := slices.Clone(steps); n != l[i] {
				l[i] = n
				refused(t, "P2201: another number", good, l)
			}
		}
	}
}

func TestANewOne(t *testing.T) {
	for w := 1; w <= 128; w++ {
		for low := range min(w, 8) + 1 {
			c := with(with(few, width, w), direct, low)
			var l []int
			for n := w; n > low; n -= 6 {
				l = append([]int{n}, l...)
			}
			e := made(t, c, uint64(w), l, nil)
			if !slices.Equal(e.Levels(), l) || len(e.Routes()) != 0 {
				t.Fatalf("P2203: a new one of %v has %v, and Routes %v", l, e.Levels(), e.Routes())
			}
			for _, a := range edges.Samples() {
				sees(t, "P2202: a new one", e, a, -1)
			}
			for i := range l {
				if keys, size := e.Level(i); len(keys) != 0 || size < 1 {
					t.Fatalf("P2203: Level %d of a new one: %v, %d", i, keys, size)
				}
			}
			noLevel(t, e, len(l))
		}
	}
}

// noLevel fails the test where there is a level at a number that none of so many has.
func noLevel(t *testing.T, e *engine.Engine, n int) {
	t.Helper()
	for _, i := range []int{-1, n, n + 1, -n - 1, math.MinInt, math.MaxInt, n + 1<<32, -1 << 32} {
		if keys, size := e.Level(i); len(keys) != 0 || size != 0 {
			t.Fatalf("P2203: Level %d of %d: %v, %d", i, n, keys, size)
		}
	}
}

// sized fails the test where the filters have other bits.
func sized(t *testing.T, what string, c api.Config, l, counts, want []int) {
	t.Helper()
	wasLevels, wasCounts := slices.Clone(l), slices.Clone(counts)
	e := made(t, c, 7, l, counts)
	if !slices.Equal(l, wasLevels) || !slices.Equal(counts, wasCounts) {
		t.Fatalf("%s: New turned what it was handed to %v, %v", what, l, counts)
	}
	var got []int
	for i := range l {
		_, size := e.Level(i)
		got = append(got, size)
	}
	if !slices.Equal(got, want) {
		t.Fatalf("%s: the filters of %v with %v have %v bits, want %v", what, l, counts, got, want)
	}
}

// TestFilterBitsByHand has 10 bits for each of two levels, and 80 to share.
func TestFilterBitsByHand(t *testing.T) {
	c := api.Config{Width: 4, Levels: 2, Stride: 4, Hashes: 1, Bits: 100, Least: 10, Buckets: 1}
	for _, x := range []struct {
		what         string
		counts, want []int
	}{
		{"no counts", nil, []int{90, 10}},
		{"none of any length", make([]int, 129), []int{90, 10}},
		{"as many keys", []int{9, 1, 1, 1, 1}, []int{50, 50}},
		{"the first alone", []int{0, 1}, []int{90, 10}},
		{"the last alone", []int{0, 0, 0, 0, 1}, []int{10, 90}},
		{"one over", []int{0, 3, 0, 5, 2}, []int{37, 63}},
		{"lengths that no level has", []int{1000, 0, 1, 0, 1, 1000, 1000}, []int{50, 50}},
		{"length 0", []int{1000}, []int{90, 10}},
		{"below 0", []int{-1, -9, 1, math.MinInt, 3}, []int{30, 70}},
		{"all below 0", []int{-1, -1, -1, -1, -1}, []int{90, 10}},
		{"above 2^20", []int{0, 0, math.MaxInt, 0, 1 << 20}, []int{50, 50}},
		{"just above 2^20", []int{0, 0, 1 << 20, 0, 1<<20 + 1}, []int{50, 50}},
		{"far above 2^20", []int{0, 0, 1 << 19, 0, 1 << 40}, []int{37, 63}},
		{"few beside many", []int{0, 0, 1, 0, 1 << 20}, []int{11, 89}},
		{"half of 2^20", []int{0, 1 << 19, 0, 0, 1 << 20}, []int{50, 50}},
		{"more lengths than there are", append(append([]int{0, 0, 1, 0, 1}, make([]int, 130)...), math.MaxInt), []int{50, 50}},
	} {
		sized(t, "P2201: "+x.what, c, []int{2, 4}, x.counts, x.want)
		if n := len(x.counts); n > 0 {
			sized(t, "P2201: "+x.what+", with room to spare", c, []int{2, 4, 4}[:2], append(slices.Clone(x.counts), 1000, 1000)[:n], x.want)
		}
	}
	c.Width, c.Direct = 6, 2
	sized(t, "P2201: lengths of the direct array", c, []int{3, 6}, []int{900, 900, 900, 1, 0, 0, 1}, []int{50, 50})
	sized(t, "P2201: lengths of the direct array", c, []int{4, 6}, []int{900, 900, 900, 1, 0, 3, 2}, []int{26, 74})
	c.Width = 2
	sized(t, "P2201: no levels", c, nil, []int{1, 1, 1}, nil)
}

func TestFilterBitsAreCut(t *testing.T) {
	c := api.Config{Width: 4, Levels: 2, Stride: 4, Hashes: 1, Bits: api.MaxBits + 10, Least: 10, Buckets: 1}
	sized(t, "P2201: the most", c, []int{2, 4}, nil, []int{api.MaxBits, 10})
	sized(t, "P2201: one more", with(c, bits, api.MaxBits+11), []int{2, 4}, nil, []int{api.MaxBits, 10})
	sized(t, "P2201: one less", with(c, bits, api.MaxBits+9), []int{2, 4}, nil, []int{api.MaxBits - 1, 10})
	sized(t, "P2201: the last", with(c, bits, 1<<20), []int{2, 4}, []int{0, 0, 0, 0, 1}, []int{10, api.MaxBits})
	sized(t, "P2201: both", with(c, bits, 1<<30), []int{2, 4}, []int{0, 0, 1, 0, 1}, []int{api.MaxBits, api.MaxBits})
	c.Least, c.Bits = api.MaxBits, 1<<17
	sized(t, "P2201: the greatest Least", c, []int{2, 4}, nil, []int{api.MaxBits, api.MaxBits})
	c.Levels = 1
	for _, n := range []int{1, 2, 3, api.MaxBits - 1, api.MaxBits} {
		c.Bits, c.Least = n, 1
		sized(t, "P2201: one level has all", c, []int{4}, nil, []int{n})
	}
}

// plainSizes are the bits of the filters, by the words of the chapters, in numbers of any size.
func plainSizes(c api.Config, l, counts []int) []int {
	if len(l) == 0 {
		return nil
	}
	weights, all := make([]*big.Int, len(l)), new(big.Int)
	low := c.Direct
	for i, n := range l {
		weights[i] = new(big.Int)
		for k := low + 1; k <= n; k++ {
			if k < len(counts) {
				one := big.NewInt(int64(max(0, min(counts[k], 1<<20))))
				weights[i].Add(weights[i], one.Lsh(one, uint(n-k)))
			}
		}
		all.Add(all, weights[i])
		low = n
	}
	left := int64(c.Bits - c.Least*len(l))
	over := left
	out := make([]int, len(l))
	for i := range out {
		out[i] = c.Least
		if all.Sign() > 0 {
			part := new(big.Int).Mul(weights[i], big.NewInt(left))
			n := part.Div(part, all).Int64()
			out[i] += int(n)
			over -= n
		}
	}
	for i := 0; over > 0; i++ {
		switch {
		case all.Sign() == 0:
			out[i] += int(over)
			over = 0
		case weights[i].Sign() > 0:
			out[i]++
			over--
		}
	}
	for i := range out {
		out[i] = min(out[i], 1<<16)
	}
	return out
}

// TestFilterBitsAgainstAPlainForm has counts of any number and as many, and levels of all widths.
func TestFilterBitsAgainstAPlainForm(t *testing.T) {
	for start := range uint64(600) {
		r := edges.Chance(start)
		c, l := r.Config()
		c.Bits = c.Least*max(1, c.Levels) + r.Next([]int{1, 300, 1 << 20, 1 << 29}[r.Next(4)])
		counts := make([]int, r.Next(140))
		for i := range counts {
			counts[i] = []int{0, r.Next(9) - 1, r.Next(1 << 20), 1 << 20, math.MaxInt, math.MinInt}[r.Next(6)]
		}
		sized(t, "P2201", c, l, counts, plainSizes(c, l, counts))
	}
}
