package histo_test

import (
	"math"
	"math/big"
	"slices"
	"sync"
	"testing"

	"flocculus/api"
	"flocculus/histo"
)

const ones = math.MaxUint64

// none are numbers that no prefix has as its length; cut to fewer bits, some of them would be one.
var none = []int{-1, -2, -8, -128, -129, math.MinInt8, math.MinInt16, math.MinInt32, -1 << 32, 8 - 1<<32, -1 << 62, math.MinInt + 1, math.MinInt, 129, 130, 255, 256, 257, 264, 1 << 16, 1<<16 + 8, math.MaxInt32, 1 << 31, 1 << 32, 1<<32 + 8, 1 << 62, 1<<62 + 8, math.MaxInt - 1, math.MaxInt}

// of are counts that are 0 but for the pairs of a length and its count.
func of(pairs ...int) []int {
	out := make([]int, 129)
	for i := 0; i < len(pairs); i += 2 {
		out[pairs[i]] = pairs[i+1]
	}
	return out
}

// all are counts of n at each length.
func all(n int) []int {
	return slices.Repeat([]int{n}, 129)
}

// each lists from, and every by behind it, up to to.
func each(from, by, to int) []int {
	var out []int
	for n := from; n <= to; n += by {
		out = append(out, n)
	}
	return out
}

// count fails the test where Count of l is another list, or turns l.
func count(t *testing.T, what string, l []api.Route, want []int) {
	t.Helper()
	was := slices.Clone(l)
	if got := histo.Count(l); !slices.Equal(got, want) {
		t.Fatalf("%s: Count of %v is %v, want %v", what, was, got, want)
	}
	if !slices.Equal(l, was) {
		t.Fatalf("%s: Count turned %v into %v", what, was, l)
	}
}

// cost fails the test where Cost is another, or turns what it is handed.
func cost(t *testing.T, what string, counts, levels []int, low, want int) {
	t.Helper()
	answers(t, what, counts, levels, low, want, true)
}

// refused fails the test where there is a Cost.
func refused(t *testing.T, what string, counts, levels []int, low int) {
	t.Helper()
	answers(t, what, counts, levels, low, 0, false)
}

func answers(t *testing.T, what string, counts, levels []int, low, want int, ok bool) {
	t.Helper()
	wasCounts, wasLevels := slices.Clone(counts), slices.Clone(levels)
	got, is := histo.Cost(counts, levels, low)
	if got != want || is != ok {
		t.Fatalf("%s: Cost of %v at %v above %d is %d, %v, want %d, %v", what, counts, levels, low, got, is, want, ok)
	}
	if !slices.Equal(counts, wasCounts) || !slices.Equal(levels, wasLevels) {
		t.Fatalf("%s: Cost turned %v, %v into %v, %v", what, wasCounts, wasLevels, counts, levels)
	}
}

// plain is Cost in numbers of any size, level by level, with the keys that each route makes.
func plain(counts, levels []int, low int) (int, bool) {
	steps := append([]int{low}, levels...)
	for i, n := range levels {
		if n > 128 || n <= steps[i] {
			return 0, false
		}
	}
	if low < 0 {
		return 0, false
	}
	sum := new(big.Int)
	for n, count := range counts[:min(len(counts), 129)] {
		if n <= low || count <= 0 {
			continue
		}
		i := slices.IndexFunc(steps[1:], func(level int) bool { return level >= n })
		if i < 0 || levels[i] > n+20 {
			return 0, false
		}
		key := new(big.Int).Exp(big.NewInt(2), big.NewInt(int64(levels[i]-n)), nil)
		sum.Add(sum, key.Mul(key, big.NewInt(int64(min(count, 1048576)))))
	}
	return int(sum.Int64()), sum.IsInt64()
}

// chance makes numbers that follow from itself.
type chance uint64

func (c *chance) next(n int) int {
	*c = *c*6364136223846793005 + 1442695040888963407
	return int(uint64(*c) >> 33 % uint64(n))
}

// some makes counts, levels and a low, most of which have a Cost.
func (c *chance) some() (counts, levels []int, low int) {
	numbers := []int{1, 2, 3, 7, 300, 1<<20 - 1, 1 << 20, 1<<20 + 1, 1 << 40, math.MaxInt, -1, -300, math.MinInt}
	counts = make([]int, c.next(140))
	for i := range counts {
		if c.next(2) == 0 {
			counts[i] = numbers[c.next(len(numbers))]
		}
	}
	low = c.next(133) - 2
	far := 1 + c.next(21)
	for n := low; n < 128; {
		n = min(128, n+1+c.next(far))
		levels = append(levels, n)
	}
	if len(levels) > 0 && c.next(4) == 0 {
		levels[c.next(len(levels))] += c.next(9) - 4
	}
	if c.next(8) == 0 {
		levels = levels[:c.next(len(levels)+1)]
	}
	return counts, levels, low
}

func TestCountOfNone(t *testing.T) {
	for _, l := range [][]api.Route{nil, {}, make([]api.Route, 0, 4)} {
		count(t, "P1601: no route", l, of())
	}
}

// TestCountOfEachLength has each length alone, so often that no other has as many.
func TestCountOfEachLength(t *testing.T) {
	var l []api.Route
	want := of()
	for n := range 129 {
		one := []api.Route{{Prefix: api.Prefix{Len: n}}}
		count(t, "P1601: one length", one, of(n, 1))
		count(t, "P1601: one length, often", slices.Repeat(one, n+2), of(n, n+2))
		l = append(l, slices.Repeat(one, n+2)...)
		want[n] = n + 2
		count(t, "P1601: lengths from 0 on", l, want)
	}
	slices.Reverse(l)
	count(t, "P1601: lengths from 128 on", l, want)
}

func TestCountOfNoLength(t *testing.T) {
	var l []api.Route
	for _, n := range none {
		one := api.Route{Prefix: api.Prefix{Len: n}}
		count(t, "P1601: no length", []api.Route{one}, of())
		l = append(l, one, api.Route{Prefix: api.Prefix{Len: 8}}, api.Route{}, one, api.Route{Prefix: api.Prefix{Len: 128}})
		count(t, "P1601: no length among others", l, of(0, len(l)/5, 8, len(l)/5, 128, len(l)/5))
	}
}

// TestTheLengthAloneCounts has routes of one length that are of one prefix, of others or of none, to any hop: each is one more.
func TestTheLengthAloneCounts(t *testing.T) {
	var l []api.Route
	for _, a := range []api.Addr{{}, {Hi: 10 << 56}, {Lo: 1}, {Hi: ones, Lo: ones}} {
		for _, hop := range []int{0, 0, 1, -1, math.MaxInt, math.MinInt} {
			l = append(l, api.Route{Prefix: api.Prefix{Addr: a, Len: 8}, Hop: hop})
			count(t, "P1601: one length", l, of(8, len(l)))
		}
	}
}

func TestCountOfMany(t *testing.T) {
	const many = 1<<20 + 77
	l := make([]api.Route, many)
	for i := range l {
		l[i].Prefix.Len = 64
	}
	if got := histo.Count(l); !slices.Equal(got, of(64, many)) {
		t.Errorf("P1601: Count of %d routes has %d", many, got[64])
	}
}

func TestCountAgainstAPlainForm(t *testing.T) {
	c := chance(16)
	for range 300 {
		l := make([]api.Route, c.next(900))
		want := of()
		for i := range l {
			n := c.next(150) - 10
			l[i] = api.Route{Prefix: api.Prefix{Addr: api.Addr{Hi: uint64(c.next(99))}, Len: n}, Hop: c.next(99)}
			if 0 <= n && n <= 128 {
				want[n]++
			}
		}
		count(t, "P1601: many lengths", l, want)
	}
}

func TestCostOfNothing(t *testing.T) {
	for _, counts := range [][]int{nil, {}, of(), make([]int, 0, 200), all(0), all(-1), all(math.MinInt)} {
		for _, levels := range [][]int{nil, {}, {1}, {128}, {30, 90}, each(1, 1, 128)} {
			cost(t, "P1601: of nothing", counts, levels, 0, 0)
		}
		for _, low := range []int{0, 1, 64, 127, 128, 129, 1 << 32, math.MaxInt} {
			cost(t, "P1601: of nothing, at no level", counts, nil, low, 0)
		}
	}
}

// TestOneLengthAtOneLevel has each length, each level and each low.
func TestOneLengthAtOneLevel(t *testing.T) {
	const times = 3
	for length := range 129 {
		counts := of(length, times)
		for level := range 131 {
			levels := []int{level}
			for low := range 131 {
				want, ok := 0, low < level && level <= 128
				if ok && length > low {
					ok = length <= level && level <= length+20
					if ok {
						want = times * int(math.Pow(2, float64(level-length)))
					}
				}
				if got, is := histo.Cost(counts, levels, low); got != want || is != ok {
					t.Fatalf("P1601: Cost of length %d at level %d above %d is %d, %v, want %d, %v", length, level, low, got, is, want, ok)
				}
			}
		}
	}
}

// TestOneLengthAtTwoLevels has the length at the least level that is not below it, be there others near or none.
func TestOneLengthAtTwoLevels(t *testing.T) {
	for length := 1; length <= 128; length++ {
		counts := of(length, 5)
		for _, first := range each(1, 1, 127) {
			for _, second := range []int{first + 1, first + 3, first + 19, first + 20, first + 21, first + 22, 128} {
				if second <= first || second > 128 {
					continue
				}
				level := second
				if length <= first {
					level = first
				}
				levels := []int{first, second}
				if length > second || level > length+20 {
					refused(t, "P1601: one length, two levels", counts, levels, 0)
				} else {
					cost(t, "P1601: one length, two levels", counts, levels, 0, 5<<(level-length))
				}
			}
		}
	}
}

func TestCostByHand(t *testing.T) {
	counts := of(8, 3, 12, 5, 16, 7, 20, 2, 24, 11)
	cost(t, "P1601: each its own", counts, []int{8, 12, 16, 20, 24}, 0, 28)
	cost(t, "P1601: all to the last", counts, []int{24}, 0, 3<<16+5<<12+7<<8+2<<4+11)
	cost(t, "P1601: two levels", counts, []int{16, 24}, 0, 3<<8+5<<4+7+2<<4+11)
	cost(t, "P1601: two others", counts, []int{12, 24}, 0, 3<<4+5+7<<8+2<<4+11)
	cost(t, "P1601: from low on", counts, []int{16, 24}, 8, 5<<4+7+2<<4+11)
	cost(t, "P1601: from between on", counts, []int{16, 24}, 13, 7+2<<4+11)
	cost(t, "P1601: more than are needed", counts, []int{1, 9, 13, 17, 21, 25, 70, 128}, 0, 3<<1+5<<1+7<<1+2<<1+11<<1)
	refused(t, "P1601: none for the last", counts, []int{8, 12, 16, 20}, 0)
	refused(t, "P1601: one too far from the first", counts, []int{29}, 0)
	cost(t, "P1601: the first is low's", counts, []int{29}, 8, 5<<17+7<<13+2<<9+11<<5)
}

// TestLevelsThatDoNotRise has one level turned, at each place.
func TestLevelsThatDoNotRise(t *testing.T) {
	right := []int{4, 9, 20, 64, 65, 127, 128}
	const low = 3
	for _, counts := range [][]int{nil, of(), of(4, 1), of(2, 1), of(65, 1), all(-1)} {
		cost(t, "P1601: levels that rise", counts, right, low, max(0, at(counts, 4)+at(counts, 65)))
		for i, was := range right {
			ahead := low
			if i > 0 {
				ahead = right[i-1]
			}
			for _, n := range slices.Concat(none, []int{ahead, ahead - 1, 0, low}) {
				levels := slices.Clone(right)
				levels[i] = n
				if n == was {
					continue
				}
				refused(t, "P1601: a level that does not rise", counts, levels, low)
				refused(t, "P1601: a last level that does not rise", counts, levels[:i+1], low)
			}
		}
	}
}

// at is the count of length n, 0 behind the end.
func at(counts []int, n int) int {
	if n < len(counts) {
		return counts[n]
	}
	return 0
}

// TestTheSameLevelTwice has levels of which one pair alone is wrong, in order or not, where no count asks for it.
func TestTheSameLevelTwice(t *testing.T) {
	right := each(10, 10, 120)
	for i := range right {
		twice := slices.Insert(slices.Clone(right), i, right[i])
		refused(t, "P1601: the same level twice", of(1, 1), twice, 0)
		if i > 0 {
			turned := slices.Clone(right)
			turned[i-1], turned[i] = turned[i], turned[i-1]
			refused(t, "P1601: two levels turned about", of(1, 1), turned, 0)
		}
	}
	slices.Reverse(right)
	refused(t, "P1601: levels that fall", nil, right, 0)
}

// TestLevelsFromAboveLow has every low for levels that begin with each.
func TestLevelsFromAboveLow(t *testing.T) {
	for first := 1; first <= 128; first++ {
		levels := each(first, 1, 128)
		for low := range 140 {
			if low < first {
				cost(t, "P1601: levels above low", nil, levels, low, 0)
			} else {
				refused(t, "P1601: levels not above low", nil, levels, low)
			}
		}
	}
	for _, low := range []int{128, 129, 1 << 31, 1 << 32, math.MaxInt - 1, math.MaxInt} {
		for _, level := range []int{0, 1, 127, 128, 129, low, math.MaxInt, math.MinInt} {
			refused(t, "P1601: a level where there is none", nil, []int{level}, low)
		}
	}
}

func TestLowBelowZero(t *testing.T) {
	for _, low := range none {
		if low >= 0 {
			continue
		}
		for _, counts := range [][]int{nil, of(), of(0, 1), of(8, 1), all(1)} {
			for _, levels := range [][]int{nil, {0}, {8}, {128}, {0, 8}, {low}, {low + 1}, each(0, 1, 128), each(1, 1, 128)} {
				refused(t, "P1601: low below 0", counts, levels, low)
			}
		}
	}
}

// TestLengthsUpToLow has counts of any size up to low, which cost nothing and need no level.
func TestLengthsUpToLow(t *testing.T) {
	for low := range 129 {
		for _, n := range []int{1, 1 << 20, math.MaxInt, -1} {
			counts := of()
			for i := range low + 1 {
				counts[i] = n
			}
			cost(t, "P1601: lengths up to low, at no level", counts, nil, low, 0)
			if low == 128 {
				continue
			}
			cost(t, "P1601: lengths up to low", counts, each(low+1, 1, 128), low, 0)
			counts[low+1] = 2
			cost(t, "P1601: one above low", counts, each(low+1, 1, 128), low, 2)
			refused(t, "P1601: one above low, at no level", counts, nil, low)
		}
	}
	for _, low := range []int{128, 129, 1 << 32, math.MaxInt} {
		cost(t, "P1601: low above all lengths", all(7), nil, low, 0)
	}
}

// TestCountsAreCut has numbers beside 0 and 2^20, and far from them, at each distance to the level.
func TestCountsAreCut(t *testing.T) {
	const most = 1048576
	for _, x := range []struct{ count, want int }{{1, 1}, {2, 2}, {most - 1, most - 1}, {most, most}, {most + 1, most}, {most * 2, most}, {math.MaxInt32, most}, {1 << 32, most}, {1<<32 + 1, most}, {1 << 62, most}, {math.MaxInt, most}} {
		for far := range 21 {
			for _, level := range []int{21, 64, 107, 128} {
				cost(t, "P1601: a count that is cut", of(level-far, x.count), []int{level}, 0, x.want<<far)
			}
		}
	}
	for _, count := range []int{0, -1, -2, -most, math.MinInt32, -1 << 32, 1 - 1<<32, -1 << 62, math.MinInt} {
		for length := range 129 {
			counts := of(length, count)
			cost(t, "P1601: a count of none", counts, []int{128}, 0, 0)
			cost(t, "P1601: a count of none, at no level", counts, nil, 0, 0)
			counts[5] = 1
			cost(t, "P1601: a count of none, beside another", counts, []int{5}, 4, 1)
		}
	}
}

// TestTheGreatestCost has as much as there can be: a number of more than 32 bits, and all of it.
func TestTheGreatestCost(t *testing.T) {
	for _, n := range []int{1 << 20, math.MaxInt} {
		cost(t, "P1601: all at their own", all(n), each(1, 1, 128), 0, 128<<20)
		// Each 21 lengths make 1 + 2 + .. + 2^20 times as many; the last two are left.
		cost(t, "P1601: all as far as can be", all(n), append(each(21, 21, 126), 128), 0, (6*(1<<21-1)+3)<<20)
		refused(t, "P1601: all, one further than can be", all(n), append(each(22, 21, 127), 128), 0)
		cost(t, "P1601: all, one further than can be, which is low's", all(n), append(each(22, 21, 127), 128), 1, (6*(1<<21-1)+1)<<20)
	}
}

// TestHowManyCountsThereAre has lists of each number of counts: those behind the first 129 are not looked at, those that are missing are 0.
func TestHowManyCountsThereAre(t *testing.T) {
	levels := each(1, 1, 128)
	for n := range 300 {
		counts := slices.Repeat([]int{2}, n)
		cost(t, "P1601: so many counts", counts, levels, 0, 2*max(0, min(n, 129)-1))
		cost(t, "P1601: so many counts, low among them", counts, levels[40:], 40, 2*max(0, min(n, 129)-41))
		if n < 2 {
			cost(t, "P1601: so few counts, at no level", counts, nil, 0, 0)
		} else {
			refused(t, "P1601: so many counts, at no level", counts, nil, 0)
			refused(t, "P1601: so many counts, at one level less", counts, levels[:min(n, 129)-2], 0)
		}
	}
	for _, behind := range []int{1, -1, math.MaxInt, math.MinInt} {
		counts := append(of(3, 4), slices.Repeat([]int{behind}, 200)...)
		cost(t, "P1601: counts behind the last length", counts, []int{5}, 0, 16)
		cost(t, "P1601: counts behind the last length, at no level", counts, nil, 128, 0)
	}
}

// TestSpareRoomIsNotLookedAt has numbers in the spare room of both lists, which are in neither.
func TestSpareRoomIsNotLookedAt(t *testing.T) {
	counts, levels := []int{0, 0, 1, 9, 9, 9}, []int{2, 3, 1, 500}
	cost(t, "P1601: spare room", counts[:3], levels[:1], 0, 1)
	if !slices.Equal(counts, []int{0, 0, 1, 9, 9, 9}) || !slices.Equal(levels, []int{2, 3, 1, 500}) {
		t.Errorf("P1602: Cost turned spare room: %v, %v", counts, levels)
	}
}

// TestNothingBesideFalse has the fault behind lengths that have cost something.
func TestNothingBesideFalse(t *testing.T) {
	refused(t, "P1601: the last length has none", all(1), each(1, 1, 127), 0)
	refused(t, "P1601: the last length is too far", of(1, 1, 2, 1, 107, 1), []int{1, 2, 128}, 0)
	refused(t, "P1601: the last level is too great", all(1), each(1, 1, 129), 0)
	refused(t, "P1601: the last level does not rise", all(1), append(each(1, 1, 128), 128), 0)
}

// TestRoomBetweenLevels has levels further apart than 20, which only a count between them makes wrong.
func TestRoomBetweenLevels(t *testing.T) {
	levels := []int{10, 60, 128}
	for n := 1; n <= 128; n++ {
		i := slices.IndexFunc(levels, func(level int) bool { return level >= n })
		counts := of(10, 1, 60, 1, 128, 1)
		counts[n]++
		if far := levels[i] - n; far <= 20 {
			cost(t, "P1601: near enough", counts, levels, 0, 3+1<<far)
		} else {
			refused(t, "P1601: too far", counts, levels, 0)
		}
	}
}

// story tells the Costs of what follows from seed, or nothing where a plain form has one otherwise.
func story(seed uint64, steps int) []int {
	c := chance(seed)
	out := []int{0}
	for range steps {
		counts, levels, low := c.some()
		got, is := histo.Cost(counts, levels, low)
		want, ok := plain(counts, levels, low)
		if got != want || is != ok {
			return nil
		}
		if is {
			out[0]++
		}
		out = append(out, got)
	}
	return out
}

func TestCostAgainstAPlainForm(t *testing.T) {
	for seed := range uint64(20) {
		got := story(seed, 1000)
		if got == nil {
			t.Fatalf("P1601: Cost, from %d on, is not what a plain form has", seed)
		}
		if got[0] < 100 || got[0] > 900 {
			t.Fatalf("%d of 1000 have a Cost: too few of one kind are tried", got[0])
		}
	}
}

// TestCostOfCount has what was counted as the counts.
func TestCostOfCount(t *testing.T) {
	var l []api.Route
	for n := -3; n < 140; n++ {
		l = append(l, api.Route{Prefix: api.Prefix{Len: n}}, api.Route{Prefix: api.Prefix{Len: n}})
	}
	cost(t, "P1601: what was counted", histo.Count(l), each(1, 1, 128), 0, 256)
	cost(t, "P1601: what was counted", histo.Count(l), each(2, 2, 128), 0, 64*6)
}

// TestWhatIsAnsweredIsNew turns an answer, with its spare room: neither the next one nor the routes have it.
func TestWhatIsAnsweredIsNew(t *testing.T) {
	l := []api.Route{{Prefix: api.Prefix{Len: 8}}, {Prefix: api.Prefix{Len: 128}}, {Prefix: api.Prefix{Len: 300}}}
	for _, x := range []struct {
		l    []api.Route
		want []int
	}{{nil, of()}, {l, of(8, 1, 128, 1)}} {
		first := histo.Count(x.l)
		second := histo.Count(x.l)
		first = first[:cap(first)]
		for i := range first {
			first[i] = 999
		}
		if !slices.Equal(second, x.want) {
			t.Fatalf("P1602: an answer is in the one behind: %v", second)
		}
		count(t, "P1602: behind an answer that was turned", x.l, x.want)
	}
}

// TestWhatIsHandedInIsNotKept turns the routes behind the answer.
func TestWhatIsHandedInIsNotKept(t *testing.T) {
	l := []api.Route{{Prefix: api.Prefix{Len: 8}}, {Prefix: api.Prefix{Len: 9}}}
	got := histo.Count(l)
	l[0].Prefix.Len = 9
	if !slices.Equal(got, of(8, 1, 9, 1)) {
		t.Errorf("P1602: Count keeps its list: %v", got)
	}
	count(t, "P1602: a list that was turned", l, of(9, 2))

	counts, levels := of(8, 1), []int{9}
	cost(t, "P1602: ahead", counts, levels, 0, 2)
	counts[8], levels[0] = 3, 10
	cost(t, "P1602: lists that were turned", counts, levels, 0, 12)
}

// TestAnswersHangOnTheArgumentsAlone has many at once, some of them on the same lists.
func TestAnswersHangOnTheArgumentsAlone(t *testing.T) {
	want := story(5, 500)
	c := chance(8)
	l := make([]api.Route, 500)
	for i := range l {
		l[i].Prefix.Len = c.next(129)
	}
	counts, levels := histo.Count(l), each(2, 2, 128)
	sum, _ := plain(counts, levels, 0)
	again := make([][]int, 8)
	lists := make([][]int, len(again))
	sums := make([]int, len(again))
	var wait sync.WaitGroup
	for i := range again {
		wait.Go(func() {
			again[i] = story(5, 500)
			lists[i] = histo.Count(l)
			sums[i], _ = histo.Cost(counts, levels, 0)
		})
	}
	wait.Wait()
	for i := range again {
		if want == nil || !slices.Equal(again[i], want) || !slices.Equal(lists[i], counts) || sums[i] != sum {
			t.Fatal("P1602: the same was asked, another was answered")
		}
	}
}
