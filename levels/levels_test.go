package levels_test

import (
	"cmp"
	"math"
	"math/big"
	"slices"
	"sync"
	"testing"

	"flocculus/api"
	"flocculus/histo"
	"flocculus/levels"
)

// wild are numbers that no width, low, most or stride is; cut to fewer bits, some of them would be one.
var wild = []int{-1, -2, -8, -128, -129, math.MinInt8, math.MinInt16, math.MinInt32, -1 << 32, 8 - 1<<32, -1 << 62, math.MinInt + 1, math.MinInt, 129, 130, 255, 256, 257, 264, 1 << 16, 1<<16 + 8, math.MaxInt32, 1 << 31, 1 << 32, 1<<32 + 8, 1 << 62, 1<<62 + 8, math.MaxInt - 1, math.MaxInt}

// of are counts that are 0 but for the pairs of a length and its count.
func of(pairs ...int) []int {
	out := make([]int, 129)
	for i := 0; i < len(pairs); i += 2 {
		out[pairs[i]] = pairs[i+1]
	}
	return out
}

// each lists from, and every by behind it, up to to.
func each(from, by, to int) []int {
	var out []int
	for n := from; n <= to; n += by {
		out = append(out, n)
	}
	return out
}

// right fails the test where Right is another, or turns the levels.
func right(t *testing.T, what string, width, low, most, stride int, l []int, want bool) {
	t.Helper()
	was := slices.Clone(l)
	if got := levels.Right(width, low, most, stride, l); got != want {
		t.Fatalf("%s: Right of %d, %d, %d, %d, %v is %v", what, width, low, most, stride, was, got)
	}
	if !slices.Equal(l, was) {
		t.Fatalf("%s: Right turned %v into %v", what, was, l)
	}
}

// chosen fails the test where Choose answers other levels, or turns the counts.
func chosen(t *testing.T, what string, width, low, most, stride int, counts, want []int) {
	t.Helper()
	answers(t, what, width, low, most, stride, counts, want, api.OK)
}

// refused fails the test where Choose answers levels.
func refused(t *testing.T, what string, width, low, most, stride int, counts []int) {
	t.Helper()
	answers(t, what, width, low, most, stride, counts, nil, api.ErrArg)
}

func answers(t *testing.T, what string, width, low, most, stride int, counts, want []int, err api.Errno) {
	t.Helper()
	was := slices.Clone(counts)
	got, e := levels.Choose(width, low, most, stride, counts)
	if e != err || !slices.Equal(got, want) {
		t.Fatalf("%s: Choose of %d, %d, %d, %d, %v is %v, %v, want %v, %v", what, width, low, most, stride, was, got, e, want, err)
	}
	if !slices.Equal(counts, was) {
		t.Fatalf("%s: Choose turned %v into %v", what, was, counts)
	}
}

// lists are all levels that are right, by the chapter's words: each set of lengths above low that has the width.
func lists(width, low, most, stride int) [][]int {
	if low == width {
		return [][]int{nil}
	}
	var out [][]int
	for set := range 1 << (width - low - 1) {
		var l []int
		for n := low + 1; n < width; n++ {
			if set>>(n-low-1)&1 == 1 {
				l = append(l, n)
			}
		}
		l = append(l, width)
		if len(l) <= most && widest(low, l) <= stride {
			out = append(out, l)
		}
	}
	return out
}

// widest is the greatest step from low on.
func widest(low int, l []int) int {
	out := 0
	for _, n := range l {
		out = max(out, n-low)
		low = n
	}
	return out
}

// plain is Choose, by all lists there are.
func plain(t *testing.T, width, low, most, stride int, counts []int) ([]int, api.Errno) {
	t.Helper()
	own := counts[:min(len(counts), width+1)]
	var best []int
	least := -1
	for _, l := range lists(width, low, most, stride) {
		n, ok := histo.Cost(own, l, low)
		if !ok {
			t.Fatalf("no Cost of %v above %d", l, low)
		}
		if least < 0 || cmp.Or(cmp.Compare(n, least), cmp.Compare(len(l), len(best)), slices.Compare(l, best)) < 0 {
			best, least = l, n
		}
	}
	if least < 0 {
		return nil, api.ErrArg
	}
	return best, api.OK
}

// answer is a list and what it costs.
type answer struct {
	list []int
	cost *big.Int
}

// better tells whether a is to be chosen rather than b, nil for none.
func (a *answer) better(b *answer) bool {
	return b == nil || cmp.Or(a.cost.Cmp(b.cost), cmp.Compare(len(a.list), len(b.list)), slices.Compare(a.list, b.list)) < 0
}

// wide is Choose where there are too many lists to go through: by whole lists from each length on, in numbers of any size.
func wide(width, low, most, stride int, counts []int) ([]int, api.Errno) {
	last := make([]*answer, width+1)
	last[width] = &answer{nil, new(big.Int)}
	best := last[low]
	for range most {
		next := make([]*answer, width+1)
		for from := low; from < width; from++ {
			for n := from + 1; n <= width && n <= from+stride; n++ {
				if last[n] == nil {
					continue
				}
				a := &answer{append([]int{n}, last[n].list...), new(big.Int).Add(last[n].cost, keys(counts, from, n))}
				if a.better(next[from]) {
					next[from] = a
				}
			}
		}
		last = next
		if last[low] != nil && last[low].better(best) {
			best = last[low]
		}
	}
	if best == nil {
		return nil, api.ErrArg
	}
	return best.list, api.OK
}

// keys are how many the lengths above from make at level n.
func keys(counts []int, from, n int) *big.Int {
	sum := new(big.Int)
	for l := from + 1; l <= n && l < len(counts); l++ {
		key := new(big.Int).Exp(big.NewInt(2), big.NewInt(int64(n-l)), nil)
		sum.Add(sum, key.Mul(key, big.NewInt(int64(max(0, min(counts[l], 1048576))))))
	}
	return sum
}

// fewest is how many levels there are at least.
func fewest(width, low, stride int) int {
	return (width - low + stride - 1) / stride
}

// chance makes numbers that follow from itself.
type chance uint64

func (c *chance) next(n int) int {
	*c = *c*6364136223846793005 + 1442695040888963407
	return int(uint64(*c) >> 33 % uint64(n))
}

// counts are up to so many numbers, few of them great.
func (c *chance) counts(most int) []int {
	numbers := []int{1, 1, 2, 3, 4, 8, 16, 300, 1<<20 - 1, 1 << 20, 1<<20 + 1, 1 << 40, math.MaxInt, -1, -300, math.MinInt}
	few := 1 + c.next(len(numbers))
	rare := 1 + c.next(5)
	out := make([]int, c.next(most))
	for i := range out {
		if c.next(rare) == 0 {
			out[i] = numbers[c.next(few)]
		}
	}
	return out
}

func TestRightByHand(t *testing.T) {
	right(t, "P1701: the last one is width", 8, 0, 3, 4, []int{4, 8}, true)
	right(t, "P1701: one more than needed", 8, 0, 3, 4, []int{2, 4, 8}, true)
	right(t, "P1701: steps of any size", 8, 0, 3, 4, []int{1, 5, 8}, true)
	right(t, "P1701: too many", 8, 0, 3, 4, []int{2, 4, 6, 8}, false)
	right(t, "P1701: the first is too far", 8, 0, 3, 4, []int{5, 8}, false)
	right(t, "P1701: the last is too far", 8, 0, 3, 4, []int{3, 8}, false)
	right(t, "P1701: one between is too far", 16, 0, 4, 4, []int{4, 9, 12, 16}, false)
	right(t, "P1701: below the width", 8, 0, 3, 4, []int{4, 7}, false)
	right(t, "P1701: above the width", 8, 0, 3, 4, []int{4, 7, 9}, false)
	right(t, "P1701: the width, and one above", 8, 0, 3, 4, []int{4, 8, 9}, false)
	right(t, "P1701: twice the same", 8, 0, 3, 4, []int{4, 4, 8}, false)
	right(t, "P1701: twice the width", 8, 0, 3, 4, []int{4, 8, 8}, false)
	right(t, "P1701: they fall", 8, 0, 3, 8, []int{8, 4}, false)
	right(t, "P1701: they fall, and rise", 8, 0, 4, 8, []int{4, 3, 8}, false)
	right(t, "P1701: the first is low", 8, 4, 3, 4, []int{4, 8}, false)
	right(t, "P1701: the first is below low", 8, 4, 3, 4, []int{3, 8}, false)
	right(t, "P1701: the first is 0", 8, 0, 3, 8, []int{0, 8}, false)
	right(t, "P1701: from low on", 8, 4, 3, 4, []int{8}, true)
	right(t, "P1701: none where there is a way to go", 8, 7, 3, 4, nil, false)
	right(t, "P1701: none where low is width", 8, 8, 3, 4, nil, true)
	right(t, "P1701: one where low is width", 8, 8, 3, 4, []int{8}, false)
	right(t, "P1701: one above, where low is width", 8, 8, 3, 4, []int{9}, false)
}

// TestRightOfNone has no levels, for each width and low.
func TestRightOfNone(t *testing.T) {
	for width := -1; width <= 130; width++ {
		for low := -2; low <= 131; low++ {
			want := 1 <= width && width <= 128 && low == width
			for _, l := range [][]int{nil, {}, make([]int, 0, 9)} {
				right(t, "P1701: none", width, low, 0, 1, l, want)
				right(t, "P1701: none", width, low, 128, 20, l, want)
			}
		}
	}
}

// TestRightOfOne has each level for each width, each low and each stride.
func TestRightOfOne(t *testing.T) {
	for width := range 131 {
		for low := range width + 2 {
			for stride := range 23 {
				for level := width - 1; level <= width+1; level++ {
					want := 1 <= width && width <= 128 && low < width && 1 <= stride && stride <= 20 && level == width && width-low <= stride
					right(t, "P1701: one level", width, low, 1, stride, []int{level}, want)
				}
			}
		}
	}
}

// TestRightOfEachSet has each list that rises, and each that is one of these turned about.
func TestRightOfEachSet(t *testing.T) {
	const width = 8
	for set := range 1 << 10 {
		var l []int
		for n := range 10 {
			if set>>n&1 == 1 {
				l = append(l, n)
			}
		}
		turned := slices.Clone(l)
		slices.Reverse(turned)
		for low := range width + 1 {
			for most := range 10 {
				for stride := 1; stride <= 9; stride++ {
					want := len(l) <= most && widest(low, l) <= stride
					if len(l) == 0 {
						want = low == width
					} else {
						want = want && l[0] > low && l[len(l)-1] == width
					}
					right(t, "P1701: a set", width, low, most, stride, l, want)
					if len(l) > 1 {
						right(t, "P1701: a set, turned about", width, low, most, stride, turned, false)
					}
				}
			}
		}
	}
}

// TestRightOfAWrongNumber has one number that can't be, beside others that are right.
func TestRightOfAWrongNumber(t *testing.T) {
	l := []int{4, 8}
	right(t, "P1701: nothing wrong", 8, 0, 2, 4, l, true)
	for _, n := range wild {
		right(t, "P1701: no such width", n, 0, 2, 4, l, false)
		right(t, "P1701: no such width, which is the last one", n, 0, 128, 20, []int{4, n}, false)
		right(t, "P1701: no such width, low is it", n, n, 2, 4, nil, false)
		right(t, "P1701: no such low", 8, n, 2, 4, l, false)
		right(t, "P1701: no such low, near the first", 8, n, 3, 20, []int{n + 1, 4, 8}, false)
		right(t, "P1701: no such most", 8, 0, n, 4, l, false)
		right(t, "P1701: no such most, for none", 8, 8, n, 4, nil, false)
		right(t, "P1701: no such stride", 8, 0, 2, n, l, false)
		right(t, "P1701: no such stride, for none", 8, 8, 2, n, nil, false)
		for i := range 3 {
			right(t, "P1701: no such level", 8, 0, 3, 20, slices.Insert(slices.Clone(l), i, n), false)
			if i < 2 {
				turned := slices.Clone(l)
				turned[i] = n
				right(t, "P1701: no such level", 8, 0, 2, 20, turned, false)
			}
		}
	}
	right(t, "P1701: width 0", 0, 0, 2, 4, nil, false)
	right(t, "P1701: width 129", 129, 128, 2, 4, []int{129}, false)
	right(t, "P1701: width 129, low is it", 129, 129, 2, 4, nil, false)
	right(t, "P1701: low above width", 8, 9, 2, 4, nil, false)
	right(t, "P1701: low -1", 8, -1, 3, 4, []int{3, 7, 8}, false)
	right(t, "P1701: most -1", 8, 8, -1, 4, nil, false)
	right(t, "P1701: most 129", 8, 0, 129, 4, l, false)
	right(t, "P1701: stride 0", 8, 0, 2, 0, l, false)
	right(t, "P1701: stride 0, for none", 8, 8, 2, 0, nil, false)
	right(t, "P1701: stride 21", 8, 0, 2, 21, l, false)
	right(t, "P1701: the edges", 1, 1, 0, 1, nil, true)
	right(t, "P1701: the edges", 1, 0, 1, 1, []int{1}, true)
	right(t, "P1701: the edges", 128, 128, 128, 20, nil, true)
}

// TestRightOfMany has lists as long as most, one shorter and one longer.
func TestRightOfMany(t *testing.T) {
	for n := 1; n <= 128; n++ {
		l := each(1, 1, n)
		right(t, "P1701: so many", n, 0, n, 1, l, true)
		right(t, "P1701: so many, more may be", n, 0, 128, 20, l, true)
		right(t, "P1701: so many, one less may be", n, 0, n-1, 20, l, false)
		right(t, "P1701: one too few", n, 0, n, 1, l[:n-1], false)
		right(t, "P1701: one too many", n, 0, 128, 1, append(slices.Clone(l), n+1), false)
	}
	right(t, "P1701: more than can be", 128, 0, 128, 1, each(1, 1, 1000), false)
	right(t, "P1701: more than can be, all the same", 128, 0, 128, 20, slices.Repeat([]int{128}, 1000), false)
	l := each(20, 20, 120)
	right(t, "P1701: as far as can be", 120, 0, 6, 20, l, true)
	right(t, "P1701: as far as can be, and a bit", 121, 0, 7, 20, append(slices.Clone(l), 121), true)
	for i := range l {
		turned := slices.Clone(l)
		turned[i]++
		right(t, "P1701: one is too far, or not the last", 120, 0, 6, 20, turned, false)
	}
}

func TestChooseByHand(t *testing.T) {
	counts := of(8, 3, 12, 5, 16, 7, 20, 2, 24, 11)
	chosen(t, "P1701: each its own", 24, 0, 128, 8, counts, []int{8, 12, 16, 20, 24})
	chosen(t, "P1701: four, the cheapest one spread", 24, 4, 4, 8, counts, []int{8, 12, 16, 24})
	chosen(t, "P1701: three", 24, 0, 3, 20, counts, []int{12, 16, 24})
	chosen(t, "P1701: two", 24, 0, 2, 20, counts, []int{16, 24})
	chosen(t, "P1701: two, the cheapest first one too far", 24, 0, 2, 15, counts, []int{12, 24})
	chosen(t, "P1701: one, low is near enough", 24, 8, 1, 20, counts, []int{24})
	refused(t, "P1701: one, low is too far", 24, 3, 1, 20, counts)
	chosen(t, "P1701: those up to low cost nothing", 24, 12, 2, 20, counts, []int{16, 24})
	chosen(t, "P1701: only those up to the width", 16, 0, 2, 20, counts, []int{12, 16})
	chosen(t, "P1701: below the width, none asks for more", 30, 16, 3, 20, counts, []int{20, 24, 30})
}

// TestTies has several of one cost: the fewest, and of these the least where they differ first.
func TestTies(t *testing.T) {
	chosen(t, "P1701: of no counts, one level", 8, 0, 8, 8, nil, []int{8})
	chosen(t, "P1701: of no counts, two levels", 8, 0, 8, 7, nil, []int{1, 8})
	chosen(t, "P1701: of no counts, three levels", 8, 0, 8, 3, nil, []int{2, 5, 8})
	chosen(t, "P1701: of no counts, four levels", 8, 0, 8, 2, nil, []int{2, 4, 6, 8})
	chosen(t, "P1701: of no counts, from 1 on", 8, 1, 8, 2, nil, []int{2, 4, 6, 8})
	chosen(t, "P1701: of no counts, all", 8, 0, 8, 1, nil, each(1, 1, 8))
	chosen(t, "P1701: one more would cost the same", 8, 0, 8, 8, of(8, 5), []int{8})
	chosen(t, "P1701: one more costs less", 8, 0, 8, 8, of(8, 5, 7, 1), []int{7, 8})
	chosen(t, "P1701: which one of two is spread", 8, 0, 2, 8, of(6, 1, 7, 2, 8, 1), []int{7, 8})
	// {6, 8} spreads those of 7 to twice as many, {7, 8} those of 6: as many both.
	chosen(t, "P1701: whichever of two is spread", 8, 0, 2, 8, of(6, 3, 7, 3, 8, 1), []int{6, 8})
	chosen(t, "P1701: whichever of three is spread", 8, 0, 3, 8, of(5, 3, 6, 3, 7, 3, 8, 1), []int{5, 6, 8})
	chosen(t, "P1701: the first may be far below what counts", 16, 0, 3, 10, of(14, 9, 16, 9), []int{4, 14, 16})
	chosen(t, "P1701: two are fewer than three, though those begin lower", 16, 0, 3, 8, of(16, 9), []int{8, 16})
	chosen(t, "P1701: nothing to gain up to low", 8, 4, 8, 8, of(1, 9, 2, 9, 3, 9, 4, 9), []int{8})
}

// TestChooseOfNoCounts has the fewest there can be, the first as near to low as the others let it.
func TestChooseOfNoCounts(t *testing.T) {
	for _, width := range []int{1, 2, 7, 32, 127, 128} {
		for low := 0; low <= width; low += 1 + low/9 {
			for stride := 1; stride <= 20; stride++ {
				n := fewest(width, low, stride)
				want := make([]int, n)
				for i := range want {
					want[i] = width - (n-1-i)*stride
				}
				chosen(t, "P1701: no counts", width, low, n, stride, nil, want)
				chosen(t, "P1701: no counts", width, low, 128, stride, of(0, 7), want)
				if n > 0 {
					refused(t, "P1701: no counts, one level less", width, low, n-1, stride, nil)
				}
			}
		}
	}
}

// TestChooseOfOneLength has each length alone: it is a level, be it worth one more.
func TestChooseOfOneLength(t *testing.T) {
	const width, stride = 40, 10
	for length := 1; length <= width; length++ {
		counts := of(length, 2)
		want, e := wide(width, 0, 40, stride, counts)
		if e != api.OK || !slices.Contains(want, length) {
			t.Fatalf("a plain form has %v, %v for length %d", want, e, length)
		}
		chosen(t, "P1701: one length", width, 0, 40, stride, counts, want)
	}
}

// TestEveryLengthIsALevel has counts that are worth a level each, for each width and from each low on.
func TestEveryLengthIsALevel(t *testing.T) {
	counts := slices.Repeat([]int{1}, 129)
	for width := 1; width <= 128; width++ {
		for low := max(0, width-30); low <= width; low++ {
			chosen(t, "P1701: each its own", width, low, 128, 20, counts, each(low+1, 1, width))
			chosen(t, "P1701: each its own", width, low, width-low, 1, counts, each(low+1, 1, width))
			if width > low {
				refused(t, "P1701: each its own, one less", width, low, width-low-1, 1, counts)
			}
		}
	}
	chosen(t, "P1701: each its own, from 0 on", 128, 0, 128, 20, counts, each(1, 1, 128))
}

// TestLowIsWidth has no levels, whatever most, stride and counts are.
func TestLowIsWidth(t *testing.T) {
	for n := 1; n <= 128; n++ {
		for _, counts := range [][]int{nil, of(n, 9), slices.Repeat([]int{9}, 300)} {
			for _, most := range []int{0, 1, 128} {
				chosen(t, "P1701: low is width", n, n, most, 1, counts, nil)
				chosen(t, "P1701: low is width", n, n, most, 20, counts, nil)
			}
		}
	}
}

func TestChooseOfAWrongNumber(t *testing.T) {
	for _, counts := range [][]int{nil, of(4, 1, 8, 1)} {
		chosen(t, "P1701: nothing wrong", 8, 4, 4, 4, counts, []int{8})
		for _, n := range wild {
			refused(t, "P1701: no such width", n, 4, 4, 4, counts)
			refused(t, "P1701: no such width, low is it", n, n, 4, 4, counts)
			refused(t, "P1701: no such low", 8, n, 4, 4, counts)
			refused(t, "P1701: no such most", 8, 4, n, 4, counts)
			refused(t, "P1701: no such most, no level is needed", 8, 8, n, 4, counts)
			refused(t, "P1701: no such stride", 8, 4, 4, n, counts)
			refused(t, "P1701: no such stride, no level is needed", 8, 8, 4, n, counts)
		}
		refused(t, "P1701: width 0", 0, 0, 4, 4, counts)
		refused(t, "P1701: low above width", 8, 9, 4, 4, counts)
		refused(t, "P1701: low far above width", 8, 128, 4, 4, counts)
		refused(t, "P1701: most 0", 8, 4, 0, 4, counts)
		refused(t, "P1701: stride 0", 8, 4, 4, 0, counts)
		refused(t, "P1701: stride 0, no level is needed", 8, 8, 4, 0, counts)
		refused(t, "P1701: stride 21", 8, 4, 4, 21, counts)
		refused(t, "P1701: stride 21, no level is needed", 8, 8, 4, 21, counts)
		refused(t, "P1701: two levels for three steps", 8, 0, 2, 3, counts)
	}
	for _, x := range wild {
		for _, y := range wild {
			refused(t, "P1701: no such numbers", x, y, y, x, nil)
			right(t, "P1701: no such numbers", x, y, y, x, []int{x, y}, false)
		}
	}
}

// TestCountsBehindTheWidth has numbers behind the width, or behind all lengths, which turn nothing.
func TestCountsBehindTheWidth(t *testing.T) {
	c := chance(1)
	for range 300 {
		width := 1 + c.next(12)
		low := c.next(width + 1)
		counts := c.counts(width + 2)
		want, e := plain(t, width, low, 4, 5, counts)
		more := append(slices.Clone(counts), make([]int, width+1-len(counts))...)
		for _, n := range []int{0, 1, 1 << 20, math.MaxInt, -1, math.MinInt} {
			answers(t, "P1701: counts behind the width", width, low, 4, 5, append(slices.Clone(more), slices.Repeat([]int{n}, c.next(300))...), want, e)
		}
	}
	for _, n := range []int{1, math.MaxInt, math.MinInt} {
		chosen(t, "P1701: counts behind all lengths", 128, 108, 2, 20, append(of(110, 1), slices.Repeat([]int{n}, 100)...), []int{110, 128})
	}
}

// TestCountsAreCut has what histo.Cost makes of a count: none below 0, 2^20 above that.
func TestCountsAreCut(t *testing.T) {
	for _, n := range []int{0, -1, -300, math.MinInt32, 1 - 1<<32, math.MinInt} {
		chosen(t, "P1701: a count of none", 8, 0, 2, 8, of(6, n, 8, 1), []int{8})
		chosen(t, "P1701: a count of none, beside one", 8, 0, 2, 8, of(6, n, 7, 1, 8, 1), []int{7, 8})
	}
	for _, n := range []int{1 << 20, 1<<20 + 1, 1 << 32, 1<<32 + 1, math.MaxInt} {
		chosen(t, "P1701: as many as 2^20", 8, 0, 2, 8, of(6, 1<<20, 7, n, 8, 1), []int{6, 8})
		chosen(t, "P1701: one more than the other", 8, 0, 2, 8, of(6, 1<<20-1, 7, n, 8, 1), []int{7, 8})
		chosen(t, "P1701: one less than the other", 8, 0, 2, 8, of(6, n, 7, 1<<20-1, 8, 1), []int{6, 8})
	}
	most := slices.Repeat([]int{math.MaxInt}, 129)
	for _, n := range []int{7, 8, 64, 127, 128} {
		want, e := wide(128, 0, n, 20, most)
		answers(t, "P1701: the greatest counts", 128, 0, n, 20, most, want, e)
	}
}

// TestEachSmallCount has every list of a few counts at five lengths, with every low, most and stride.
func TestEachSmallCount(t *testing.T) {
	const width = 5
	numbers := []int{0, 1, 3}
	for set := range 243 {
		counts := make([]int, width+1)
		for i := 1; i <= width; i++ {
			counts[i] = numbers[set%3]
			set /= 3
		}
		for low := range width + 1 {
			for most := range width + 2 {
				for stride := 1; stride <= width+1; stride++ {
					want, e := plain(t, width, low, most, stride, counts)
					answers(t, "P1701: small counts", width, low, most, stride, counts, want, e)
				}
			}
		}
	}
}

func TestChooseAgainstAllLists(t *testing.T) {
	c := chance(17)
	done := 0
	for range 1500 {
		width := 1 + c.next(12)
		low, most, stride := c.next(width+1), c.next(9), 1+c.next(9)
		counts := c.counts(16)
		want, e := plain(t, width, low, most, stride, counts)
		answers(t, "P1701: all lists", width, low, most, stride, counts, want, e)
		if e == api.OK {
			done++
		}
	}
	if done < 500 || done > 1400 {
		t.Fatalf("%d of 1500 have levels: too few of one kind are tried", done)
	}
}

// story tells the levels of what follows from seed, one list behind the other, or nothing where a plain form has others.
func story(seed uint64, steps int) []int {
	c := chance(seed)
	out := []int{0}
	for range steps {
		width := 1 + c.next(128)
		low, stride := c.next(width+1), 1+c.next(20)
		most := min(128, c.next(2*fewest(width, low, stride)+2))
		counts := c.counts(140)
		got, e := levels.Choose(width, low, most, stride, counts)
		want, err := wide(width, low, most, stride, counts)
		if e != err || !slices.Equal(got, want) || levels.Right(width, low, most, stride, got) != (e == api.OK) {
			return nil
		}
		if e == api.OK {
			out[0]++
		}
		out = append(append(out, got...), int(e))
	}
	return out
}

func TestChooseAgainstAPlainForm(t *testing.T) {
	for seed := range uint64(5) {
		got := story(seed, 40)
		if got == nil {
			t.Fatalf("P1701: Choose, from %d on, is not what a plain form has", seed)
		}
		if got[0] < 4 || got[0] > 36 {
			t.Fatalf("%d of 40 have levels: too few of one kind are tried", got[0])
		}
	}
}

// TestWhatIsChosenIsRight has each of many answers beside those that are a little other: none of these is better.
func TestWhatIsChosenIsRight(t *testing.T) {
	c := chance(4)
	for range 100 {
		stride := 1 + c.next(20)
		low := c.next(129)
		most := min(128, fewest(128, low, stride)+c.next(20))
		counts := c.counts(140)
		got, e := levels.Choose(128, low, most, stride, counts)
		if e != api.OK {
			t.Fatalf("P1701: Choose of 128, %d, %d, %d: %v", low, most, stride, e)
		}
		right(t, "P1701: what is chosen", 128, low, most, stride, got, true)
		cost, _ := histo.Cost(counts, got, low)
		for i := range got {
			for _, l := range [][]int{turned(got, i, 1), turned(got, i, -1), slices.Delete(slices.Clone(got), i, i+1), slices.Insert(slices.Clone(got), i, got[i]-1)} {
				if !levels.Right(128, low, most, stride, l) {
					continue
				}
				n, ok := histo.Cost(counts, l, low)
				if !ok || cmp.Or(cmp.Compare(n, cost), cmp.Compare(len(l), len(got)), slices.Compare(l, got)) < 0 {
					t.Fatalf("P1701: Choose of 128, %d, %d, %d, %v is %v, though there is %v", low, most, stride, counts, got, l)
				}
			}
		}
	}
}

// turned is l with one number that is by more.
func turned(l []int, i, by int) []int {
	out := slices.Clone(l)
	out[i] += by
	return out
}

// TestSpareRoomIsNotLookedAt has numbers in the spare room of what is handed in, which are in neither list.
func TestSpareRoomIsNotLookedAt(t *testing.T) {
	counts := []int{0, 0, 1, 0, 9, 9, 9}
	chosen(t, "P1702: spare room", 6, 0, 3, 6, counts[:4], []int{2, 6})
	if !slices.Equal(counts, []int{0, 0, 1, 0, 9, 9, 9}) {
		t.Errorf("P1702: Choose turned spare room: %v", counts)
	}
	l := []int{2, 6, 9, 6}
	right(t, "P1702: spare room", 6, 0, 2, 6, l[:2], true)
	right(t, "P1702: spare room", 6, 0, 2, 6, l[:1], false)
	if !slices.Equal(l, []int{2, 6, 9, 6}) {
		t.Errorf("P1702: Right turned spare room: %v", l)
	}
}

// TestWhatIsAnsweredIsNew turns an answer, with its spare room: neither the next one nor the counts have it.
func TestWhatIsAnsweredIsNew(t *testing.T) {
	counts := of(8, 3, 12, 5, 24, 1)
	for range 3 {
		first, _ := levels.Choose(24, 0, 9, 20, counts)
		second, _ := levels.Choose(24, 0, 9, 20, counts)
		first = first[:cap(first)]
		for i := range first {
			first[i] = 999
		}
		if !slices.Equal(second, []int{8, 12, 24}) {
			t.Fatalf("P1702: an answer is in the one behind: %v", second)
		}
		chosen(t, "P1702: behind an answer that was turned", 24, 0, 9, 20, counts, []int{8, 12, 24})
	}
}

// TestWhatIsHandedInIsNotKept turns the counts and the levels behind the answer.
func TestWhatIsHandedInIsNotKept(t *testing.T) {
	counts := of(8, 3, 24, 1)
	got, _ := levels.Choose(24, 4, 9, 20, counts)
	counts[8], counts[9] = 0, 1
	if !slices.Equal(got, []int{8, 24}) {
		t.Errorf("P1702: Choose keeps its list: %v", got)
	}
	chosen(t, "P1702: counts that were turned", 24, 4, 9, 20, counts, []int{9, 24})

	l := []int{4, 8}
	right(t, "P1702: ahead", 8, 0, 2, 4, l, true)
	l[0] = 3
	right(t, "P1702: levels that were turned", 8, 0, 2, 4, l, false)
}

// TestAnswersHangOnTheArgumentsAlone has many at once, some of them on the same lists.
func TestAnswersHangOnTheArgumentsAlone(t *testing.T) {
	want := story(3, 15)
	counts := of(8, 3, 12, 5, 16, 7, 20, 2, 24, 11)
	best, _ := plain(t, 24, 8, 4, 7, counts)
	again := make([][]int, 8)
	lists := make([][]int, len(again))
	is := make([]bool, len(again))
	var wait sync.WaitGroup
	for i := range again {
		wait.Go(func() {
			again[i] = story(3, 15)
			lists[i], _ = levels.Choose(24, 8, 4, 7, counts)
			is[i] = levels.Right(24, 8, 4, 7, best)
		})
	}
	wait.Wait()
	for i := range again {
		if want == nil || !slices.Equal(again[i], want) || !slices.Equal(lists[i], best) || !is[i] {
			t.Fatal("P1702: the same was asked, another was answered")
		}
	}
}
