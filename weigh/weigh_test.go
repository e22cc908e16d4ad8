package weigh_test

import (
	"math"
	"math/big"
	"slices"
	"sync"
	"testing"

	"flocculus/api"
	"flocculus/weigh"
)

// most is the greatest weight, and the greatest total too.
const most = 1 << 30

var (
	nan      = math.NaN()
	infinite = math.Inf(1)
	minus0   = math.Copysign(0, -1)
)

// noWeights are numbers of Weight 0: some that are not one by any bit, some that are nearly one.
func noWeights() []float64 {
	return []float64{
		0, minus0, -1, -1e-300, -0.5, -math.SmallestNonzeroFloat64, -math.MaxFloat64, -most, -most - 1, math.Inf(-1),
		nan, -nan, math.Float64frombits(0x7FF0000000000001), math.Float64frombits(0xFFF0000000000001), math.Float64frombits(math.MaxUint64),
		math.SmallestNonzeroFloat64, math.Float64frombits(0x000FFFFFFFFFFFFF), 1e-300, 0.5, 0.99, math.Nextafter(1, 0),
	}
}

// numbers are all of noWeights, and ones of each size above, at whole numbers and beside them.
func numbers() []float64 {
	out := append(noWeights(), infinite, math.MaxFloat64, 1e300, math.Nextafter(infinite, 0))
	for bit := range 80 {
		for _, x := range []float64{math.Ldexp(1, bit), math.Ldexp(1, bit) - 1, math.Ldexp(1.75, bit)} {
			out = append(out, x, -x, math.Nextafter(x, 0), math.Nextafter(x, infinite), x+0.5, -x-0.5)
		}
	}
	return out
}

// plainWeight is a Weight by its own words, in a number of any size.
func plainWeight(x float64) *big.Int {
	n := new(big.Int)
	if math.IsNaN(x) || math.Signbit(x) {
		return n
	}
	if x > most || math.IsInf(x, 1) {
		return n.SetInt64(most)
	}
	n, _ = new(big.Float).SetFloat64(x).Int(n)
	return n
}

// plainShares are Shares by their own words, in numbers of any size, what is over dealt one at a time.
func plainShares(total, least int, w []float64) []int {
	all, left := new(big.Int), int64(total-least*len(w))
	for _, x := range w {
		all.Add(all, plainWeight(x))
	}
	out, over := make([]int, len(w)), left
	for i, x := range w {
		out[i] = least
		if all.Sign() > 0 {
			n := new(big.Int).Mul(plainWeight(x), big.NewInt(left))
			n.Quo(n, all)
			out[i] += int(n.Int64())
			over -= n.Int64()
		}
	}
	if all.Sign() == 0 {
		out[0] += int(over)
		return out
	}
	for i := 0; over > 0; i = (i + 1) % len(w) {
		if plainWeight(w[i]).Sign() > 0 {
			out[i]++
			over--
		}
	}
	return out
}

// shared fails the test where total is not shared as wanted, or not all of it.
func shared(t *testing.T, total, least int, w []float64, want []int) {
	t.Helper()
	got, e := weigh.Shares(total, least, w...)
	if !slices.Equal(got, want) || e != api.OK {
		t.Fatalf("P1001: Shares(%d, %d, %v): %v, error %d, want %v", total, least, w, got, e, want)
	}
	sum := 0
	for _, n := range got {
		sum += n
		if n < least {
			t.Fatalf("P1001: Shares(%d, %d, %v): %v has less than %d", total, least, w, got, least)
		}
	}
	if sum != total {
		t.Fatalf("P1002: Shares(%d, %d, %v): %v are %d together", total, least, w, got, sum)
	}
}

// sameBits tells whether two lists are the same to the bit, NaN and the sign of 0 too.
func sameBits(a, b []float64) bool {
	return slices.EqualFunc(a, b, func(x, y float64) bool { return math.Float64bits(x) == math.Float64bits(y) })
}

// chance makes numbers, the same ones from the same start.
type chance uint64

func (c *chance) next(most int) int {
	*c = *c*6364136223846793005 + 1442695040888963407
	return int(uint64(*c) >> 33 % uint64(most))
}

// number makes a number of any kind, most often a weight above 0.
func (c *chance) number() float64 {
	switch c.next(8) {
	case 0:
		none := noWeights()
		return none[c.next(len(none))]
	case 1:
		return []float64{infinite, math.MaxFloat64, most, most + 1, most - 1, most - 0.25}[c.next(6)]
	case 2:
		return float64(c.next(3))
	case 3:
		return float64(most - c.next(1000))
	}
	return float64(c.next(1<<30)) / math.Ldexp(1, c.next(34))
}

// budget makes what Shares takes.
func (c *chance) budget() (total, least int, w []float64) {
	n := 1 + c.next(12)
	if c.next(10) == 0 {
		n = 200 - c.next(5)
	}
	for range n {
		w = append(w, c.number())
	}
	least = 1 + c.next(6)
	if c.next(8) == 0 {
		least = api.MaxBits - c.next(3)
	}
	switch c.next(4) {
	case 0:
		total = most - c.next(1000)
	case 1:
		total = least*n + c.next(n+1)
	default:
		total = least*n + c.next(100_000)
	}
	return total, least, w
}

func TestWeightOfSome(t *testing.T) {
	for _, x := range noWeights() {
		if got := weigh.Weight(x); math.Float64bits(got) != 0 {
			t.Errorf("P1001: Weight(%v) is %v, sign bit %v", x, got, math.Signbit(got))
		}
	}
	for _, x := range []struct{ x, want float64 }{
		{1, 1}, {math.Nextafter(1, 2), 1}, {1.5, 1}, {1.99, 1}, {math.Nextafter(2, 1), 1}, {2, 2}, {2.5, 2}, {3.5, 3}, {7.5, 7}, {1000.999, 1000},
		{1<<29 + 0.5, 1 << 29}, {1<<30 - 1, 1<<30 - 1}, {1<<30 - 0.5, 1<<30 - 1}, {math.Nextafter(1<<30, 0), 1<<30 - 1},
		{1 << 30, 1 << 30}, {math.Nextafter(1<<30, infinite), 1 << 30}, {1<<30 + 0.5, 1 << 30}, {1<<30 + 1, 1 << 30}, {1 << 31, 1 << 30},
		{1<<32 + 3, 1 << 30}, {1 << 53, 1 << 30}, {1 << 63, 1 << 30}, {1<<64 + 1<<20, 1 << 30}, {1e300, 1 << 30}, {math.MaxFloat64, 1 << 30}, {infinite, 1 << 30},
	} {
		if got := weigh.Weight(x.x); got != x.want {
			t.Errorf("P1001: Weight(%v) is %v, want %v", x.x, got, x.want)
		}
	}
}

func TestWeightAgainstAPlainForm(t *testing.T) {
	all := numbers()
	// Any 64 bits are a float64, but few of them are near the edges.
	c := chance(10)
	for range 20_000 {
		bits := uint64(c.next(1<<31))<<33 ^ uint64(c.next(1<<31))<<11 ^ uint64(c.next(1<<11))
		all = append(all, math.Float64frombits(bits), math.Ldexp(1+float64(c.next(1<<31))/(1<<31), c.next(36)-2))
	}
	for _, x := range all {
		got := weigh.Weight(x)
		if want := float64(plainWeight(x).Int64()); math.Float64bits(got) != math.Float64bits(want) {
			t.Fatalf("P1001: Weight(%v) is %v, want %v", x, got, want)
		}
		if again := weigh.Weight(got); again != got {
			t.Fatalf("P1001: Weight(%v) is %v, and the Weight of that %v", x, got, again)
		}
	}
}

// TestSharesOfSome holds the shares to ones worked out by hand.
func TestSharesOfSome(t *testing.T) {
	for _, x := range []struct {
		total, least int
		w            []float64
		want         []int
	}{
		{10, 1, []float64{1}, []int{10}},
		{10, 1, []float64{1, 1}, []int{5, 5}},
		{11, 1, []float64{1, 1}, []int{6, 5}},
		{100, 10, []float64{3, 0.5, 1}, []int{63, 10, 27}},
		{20, 2, []float64{1.9, 2.9, 3.9}, []int{5, 6, 9}},
		{7, 2, []float64{1, 2, 3}, []int{3, 2, 2}},
		// Least, and nothing more.
		{1, 1, []float64{5}, []int{1}},
		{3, 1, []float64{0, 0, 9}, []int{1, 1, 1}},
		{3, 1, []float64{0, 0, 0}, []int{1, 1, 1}},
		{15, 5, []float64{infinite, nan, 1}, []int{5, 5, 5}},
		// What is over: one each from the first on, those of Weight 0 passed over.
		{5, 1, []float64{1, 1, 1}, []int{2, 2, 1}},
		{4, 1, []float64{1, 1, 1}, []int{2, 1, 1}},
		{9, 1, []float64{1, 1, 1, 1, 1}, []int{2, 2, 2, 2, 1}},
		{8, 1, []float64{0, 1, 0, 1, 1, 0}, []int{1, 2, 1, 2, 1, 1}},
		{11, 1, []float64{0, 1, 1}, []int{1, 5, 5}},
		{12, 1, []float64{0, 1, 1}, []int{1, 6, 5}},
		{12, 1, []float64{0.99, minus0, 1, nan, 1}, []int{1, 1, 5, 1, 4}},
		{6, 1, []float64{nan, -2, 0.5, 1}, []int{1, 1, 1, 3}},
		{13, 1, []float64{1, 9, 1}, []int{2, 10, 1}},
		{6, 1, []float64{1, 1 << 20, 1 << 20}, []int{2, 2, 2}},
		// None has a Weight: the first has all of it.
		{12, 1, []float64{0, nan, -5}, []int{10, 1, 1}},
		{9, 2, []float64{math.Inf(-1), 0.99, minus0}, []int{5, 2, 2}},
		{most, 1, []float64{0, 0}, []int{most - 1, 1}},
		{most, 1, []float64{nan}, []int{most}},
		// What is above 2^30 is 2^30.
		{12, 1, []float64{infinite, 1 << 30}, []int{6, 6}},
		{12, 1, []float64{infinite, math.MaxFloat64}, []int{6, 6}},
		{most, 1, []float64{infinite, 1}, []int{most - 1, 1}},
		{most, 1, []float64{infinite, infinite}, []int{most / 2, most / 2}},
		{92, 1, []float64{1 << 31, 1 << 29}, []int{61, 31}},
	} {
		shared(t, x.total, x.least, x.w, x.want)
	}
}

// TestSharesAreExact has parts that come out one more or less where a float64 takes a product, or a quotient, on the way.
func TestSharesAreExact(t *testing.T) {
	shared(t, 1073741051, 1, []float64{1073741021, 1073741019}, []int{536870527, 536870524})
	shared(t, 51, 1, []float64{48, 1}, []int{49, 2})
	near := 0
	for a := range 40 {
		for b := range 40 {
			w := []float64{most - float64(a), most - float64(b), most - 1}
			total := most - 7*a - b
			shared(t, total, 1, w, plainShares(total, 1, w))
			left := float64(total - 3)
			if all := w[0] + w[1] + w[2]; math.Floor(w[0]*left/all) != math.Floor(left*(w[0]/all)) {
				near++
			}
		}
	}
	if near == 0 {
		t.Error("no part is near a whole number")
	}
}

func TestOneHasAll(t *testing.T) {
	for _, x := range numbers() {
		for _, total := range []int{1, 2, 7, 1000, api.MaxBits, most - 1, most} {
			for _, least := range []int{1, 2, 7, api.MaxBits} {
				if least <= total {
					shared(t, total, least, []float64{x}, []int{total})
				}
			}
		}
	}
}

// TestNumbersOfTheSameWeight shares among any numbers as among their Weights.
func TestNumbersOfTheSameWeight(t *testing.T) {
	all := numbers()
	for i, x := range all {
		w := []float64{x, 3, all[(i*7+1)%len(all)], 1000}
		whole := make([]float64, len(w))
		for j, y := range w {
			whole[j] = weigh.Weight(y)
		}
		want, _ := weigh.Shares(100_000, 5, whole...)
		shared(t, 100_000, 5, w, want)
		shared(t, 100_000, 5, w, plainShares(100_000, 5, w))
	}
}

// TestAsManyAsCanBe goes up to 200, each of them once the only one with a Weight.
func TestAsManyAsCanBe(t *testing.T) {
	for _, n := range []int{1, 2, 3, 10, 100, 199, 200} {
		w := make([]float64, n)
		for i := range w {
			w[i] = 1
			want := slices.Repeat([]int{2}, n)
			want[i] += 50
			shared(t, 2*n+50, 2, w, want)
			w[i] = 0
		}
		shared(t, n, 1, slices.Repeat([]float64{infinite}, n), slices.Repeat([]int{1}, n))
		shared(t, n*api.MaxBits, api.MaxBits, w, slices.Repeat([]int{api.MaxBits}, n))
		for over := range n {
			want := slices.Repeat([]int{4}, n)
			for i := range over {
				want[i]++
			}
			shared(t, 4*n+over, 1, slices.Repeat([]float64{infinite}, n), want)
		}
	}
}

func TestSharesRefuses(t *testing.T) {
	refused := func(total, least, n int) {
		t.Helper()
		for _, x := range []float64{0, 1, nan, infinite} {
			if got, e := weigh.Shares(total, least, slices.Repeat([]float64{x}, n)...); got != nil || e != api.ErrArg {
				t.Errorf("P1001: Shares(%d, %d, %d times %v): %d shares, error %d, want none and %d", total, least, n, x, len(got), e, api.ErrArg)
			}
		}
	}
	wrongLeast := []int{0, -1, -5, -10, api.MaxBits + 1, 2 * api.MaxBits, most, most + 1, 1 << 32, 1<<32 + 1, 1 << 62, math.MinInt32, math.MinInt, math.MinInt + 1, math.MaxInt, math.MaxInt/2 + 1}
	wrongTotal := []int{0, -1, -10, most + 1, most + 10, 1 << 31, 1 << 32, 1<<32 + 10, 1 << 62, math.MinInt32, math.MinInt, math.MinInt + 1, math.MinInt + 10, math.MaxInt}
	for _, n := range []int{1, 2, 3, 4, 128, 200} {
		for _, total := range append([]int{1, 10, 1 << 20, most}, wrongTotal...) {
			for _, least := range wrongLeast {
				refused(total, least, n)
			}
		}
		for _, total := range wrongTotal {
			for _, least := range []int{1, 2, api.MaxBits} {
				refused(total, least, n)
			}
		}
		for _, least := range []int{1, 2, 3, 1000, api.MaxBits} {
			refused(least*n-1, least, n)
			refused(least*(n-1), least, n)
		}
	}
	for _, n := range []int{0, 201, 202, 256, 1000} {
		for _, total := range append([]int{1, 10, 1 << 20, most}, wrongTotal...) {
			for _, least := range append([]int{1, 2, api.MaxBits}, wrongLeast...) {
				refused(total, least, n)
			}
		}
	}
}

func TestNoListAndAnEmptyOne(t *testing.T) {
	for i, w := range [][]float64{nil, {}, make([]float64, 0, 5)} {
		if got, e := weigh.Shares(10, 1, w...); got != nil || e != api.ErrArg {
			t.Errorf("P1001: Shares of none, %d: %v, error %d", i, got, e)
		}
	}
	if got, e := weigh.Shares(10, 1); got != nil || e != api.ErrArg {
		t.Errorf("P1001: Shares(10, 1): %v, error %d", got, e)
	}
}

func TestSharesAgainstAPlainForm(t *testing.T) {
	c := chance(1001)
	dealt, none := 0, 0
	for range 20_000 {
		total, least, w := c.budget()
		if total > most || total < least*len(w) {
			continue
		}
		want := plainShares(total, least, w)
		shared(t, total, least, w, want)
		if slices.Max(want) == least {
			none++
		} else {
			dealt++
		}
	}
	if dealt < 10_000 || none == 0 {
		t.Errorf("%d had something to share, %d nothing", dealt, none)
	}
}

func TestWhatIsHandedInStays(t *testing.T) {
	room := []float64{nan, minus0, 2.5, infinite, -7, math.Float64frombits(0x7FF0000000000001), 1e300, 0.5, nan, 3}
	was := slices.Clone(room)
	w := room[2:7]
	got, e := weigh.Shares(1000, 3, w...)
	if e != api.OK || !sameBits(room, was) {
		t.Fatalf("P1002: Shares has turned what it was handed: %v, was %v", room, was)
	}
	want := slices.Clone(got)
	room[2], room[3] = 100, 100
	if !slices.Equal(got, want) {
		t.Error("P1002: an answer has turned with what was handed in")
	}
	if _, e := weigh.Shares(1, 3, w...); e != api.ErrArg || room[2] != 100 {
		t.Error("P1002: a refusal has turned what it was handed")
	}
}

func TestEachAnswerIsNewMemory(t *testing.T) {
	one, _ := weigh.Shares(100, 1, 1, 2, 3)
	want := slices.Clone(one)
	two, _ := weigh.Shares(100, 1, 1, 2, 3)
	clear(one[:cap(one)])
	if !slices.Equal(two, want) {
		t.Fatalf("P1002: two answers share their memory: %v, want %v", two, want)
	}
	shared(t, 100, 1, []float64{1, 2, 3}, want)
}

func TestAnswersHangOnArgumentsAlone(t *testing.T) {
	story := func() (out []int) {
		c := chance(7)
		for range 500 {
			total, least, w := c.budget()
			got, e := weigh.Shares(total, least, w...)
			out = append(append(out, int(e), int(weigh.Weight(w[0]))), got...)
		}
		return out
	}
	want := story()
	again := make([][]int, 8)
	var wait sync.WaitGroup
	for i := range again {
		wait.Go(func() { again[i] = story() })
	}
	wait.Wait()
	for _, got := range again {
		if !slices.Equal(got, want) {
			t.Fatal("P1002: asked the same, answered otherwise")
		}
	}
}
