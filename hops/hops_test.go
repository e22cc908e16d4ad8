package hops_test

import (
	"maps"
	"math"
	"slices"
	"sync"
	"testing"

	"flocculus/api"
	"flocculus/hops"
)

// sizes are how many next hops are asked for, and how many there can be then.
var sizes = []struct{ most, want int }{
	{0, 0}, {1, 1}, {2, 2}, {3, 3}, {15, 15}, {16, 16}, {32, 32}, {58, 58},
	{59, 59}, {60, 60}, {61, 60}, {62, 60}, {64, 60}, {300, 60}, {math.MaxInt32, 60}, {1 << 32, 60}, {1<<32 + 1, 60}, {1 << 62, 60}, {math.MaxInt - 1, 60}, {math.MaxInt, 60},
	{-1, 0}, {-2, 0}, {-60, 0}, {-61, 0}, {math.MinInt32, 0}, {-1 << 32, 0}, {1 - 1<<32, 0}, {-1 << 62, 0}, {math.MinInt + 1, 0}, {math.MinInt, 0},
}

// below are numbers that no next hop has.
var below = []int{-1, -2, -3, -60, -61, -64, -255, -256, math.MinInt32, -1 << 32, 1 - 1<<32, -1 << 62, math.MinInt + 1, math.MinInt}

// far are next hops that only a few bits tell from each other, or from the lowest ones.
var far = []int{0, 1, 59, 60, 61, 63, 64, 127, 128, 255, 256, 257, 300, 1 << 16, 1<<16 + 1, math.MaxInt32, 1 << 31, 1 << 32, 1<<32 + 1, 1 << 33, 1 << 61, 1 << 62, 1<<62 + 1, math.MaxInt - 1, math.MaxInt}

// plain is a list with n in it as often as n has uses: the form against which the counts are held.
type plain struct {
	list []int
	most int
}

func (p *plain) uses(n int) int {
	uses := 0
	for _, x := range p.list {
		if x == n {
			uses++
		}
	}
	return uses
}

func (p *plain) count() int {
	seen := slices.Clone(p.list)
	slices.Sort(seen)
	return len(slices.Compact(seen))
}

func (p *plain) up(n int) bool {
	if n < 0 || !slices.Contains(p.list, n) && p.count() == p.most {
		return false
	}
	p.list = append(p.list, n)
	return true
}

func (p *plain) down(n int) bool {
	i := slices.Index(p.list, n)
	if i < 0 {
		return false
	}
	p.list = slices.Delete(p.list, i, i+1)
	return true
}

// differs fails the test where h does not have the uses that want has, or has one of a next hop beside them.
func differs(t *testing.T, what string, h *hops.Hops, want map[int]int) {
	t.Helper()
	if got := h.Count(); got != len(want) {
		t.Fatalf("%s: Count is %d, want %d", what, got, len(want))
	}
	for n, uses := range want {
		if got := h.Uses(n); got != uses {
			t.Fatalf("%s: Uses(%d) is %d, want %d", what, n, got, uses)
		}
	}
	for _, n := range slices.Concat(below, far) {
		if got := h.Uses(n); got != want[n] {
			t.Fatalf("%s: Uses(%d) is %d, want %d", what, n, got, want[n])
		}
	}
}

// holding is one that takes most next hops, with 100 and on used: the first once, the next twice, and so on.
func holding(most int) (*hops.Hops, map[int]int) {
	h, want := hops.New(most), map[int]int{}
	for i := range most {
		want[100+i] = i + 1
		raise(h, 100+i, i+1)
	}
	return h, want
}

// raise counts by uses of n more.
func raise(h *hops.Hops, n, by int) {
	for range by {
		h.Up(n)
	}
}

func TestANewOneHasNone(t *testing.T) {
	for _, s := range sizes {
		h := hops.New(s.most)
		if h == nil {
			t.Fatalf("P1301: New(%d) is nil", s.most)
		}
		differs(t, "P1301: a new one", h, nil)
		for _, n := range slices.Concat(below, far) {
			if h.Down(n) {
				t.Errorf("P1301: Down(%d) of a new one is true", n)
			}
		}
		differs(t, "P1301: a new one that went Down", h, nil)
	}
}

// TestAtMostMost fills each size up to its room and not beyond it.
func TestAtMostMost(t *testing.T) {
	for _, s := range sizes {
		h, want := hops.New(s.most), map[int]int{}
		for i := range s.want {
			n := 7 * i
			if !h.Up(n) {
				t.Fatalf("P1301: New(%d): Up of the next hop behind %d others is false", s.most, i)
			}
			want[n] = 1
			differs(t, "P1301: Up of a new one", h, want)
		}
		for _, n := range []int{1, 7 * s.want, 1 << 20, math.MaxInt} {
			for range 2 {
				if h.Up(n) {
					t.Errorf("P1301: New(%d): Up of %d behind %d others is true", s.most, n, s.want)
				}
				differs(t, "P1301: Up where there is no room", h, want)
			}
			if h.Down(n) {
				t.Errorf("P1301: New(%d): Down of %d, which found no room, is true", s.most, n)
			}
		}
		differs(t, "P1301: what found no room", h, want)
	}
}

func TestUpOfOneThatHasSomeNeedsNoRoom(t *testing.T) {
	for _, most := range []int{1, 2, 3, api.MaxHops} {
		h, want := holding(most)
		for range 3 {
			for i := range most {
				if !h.Up(100 + i) {
					t.Fatalf("P1301: Up of one of %d that have some is false", most)
				}
				want[100+i]++
				differs(t, "P1301: Up of one that has some", h, want)
			}
		}
	}
}

func TestUpBelowZero(t *testing.T) {
	for most := range 4 {
		h, want := hops.New(most), map[int]int{}
		// Also where there is room, and where one has some.
		for i := range most + 1 {
			for _, n := range below {
				if h.Up(n) {
					t.Errorf("P1301: Up(%d) is true", n)
				}
				if h.Down(n) {
					t.Errorf("P1301: Down(%d) is true", n)
				}
			}
			differs(t, "P1301: Up below 0", h, want)
			if i < most {
				h.Up(i)
				want[i] = 1
			}
		}
	}
}

// TestDownToNone comes down from each number of uses, past the last one.
func TestDownToNone(t *testing.T) {
	for _, n := range far {
		for uses := range 6 {
			h := hops.New(2)
			h.Up(5)
			raise(h, n, uses)
			for left := uses - 1; left >= 0; left-- {
				if !h.Down(n) {
					t.Fatalf("P1301: Down(%d) at %d is false", n, left+1)
				}
				want := map[int]int{5: 1}
				if left > 0 {
					want[n] = left
				}
				differs(t, "P1301: Down", h, want)
			}
			for range 3 {
				if h.Down(n) {
					t.Fatalf("P1301: Down(%d) at 0 is true", n)
				}
				differs(t, "P1301: Down at 0", h, map[int]int{5: 1})
			}
			if !h.Up(n) || h.Uses(n) != 1 {
				t.Errorf("P1301: Up(%d) behind Down at 0 leads to %d", n, h.Uses(n))
			}
		}
	}
}

// TestTheLastDownMakesRoom has a full one from which each in turn goes; all but its last use leave it where it is.
func TestTheLastDownMakesRoom(t *testing.T) {
	for _, most := range []int{1, 2, 5, api.MaxHops} {
		for i := range most {
			h, want := holding(most)
			n := 100 + i
			for want[n] > 0 {
				if h.Up(9) {
					t.Fatalf("P1301: Up of a new one is true, where one of %d has %d left", most, want[n])
				}
				if !h.Down(n) {
					t.Fatalf("P1301: Down at %d is false", want[n])
				}
				want[n]--
				if want[n] == 0 {
					break
				}
				differs(t, "P1301: Down of one of a full one", h, want)
			}
			delete(want, n)
			differs(t, "P1301: the last Down of a full one", h, want)
			if !h.Up(9) {
				t.Fatalf("P1301: Up of a new one where one of %d has none any more is false", most)
			}
			want[9] = 1
			differs(t, "P1301: Up in its room", h, want)
			if h.Up(n) {
				t.Fatalf("P1301: Up of the one that went, and whose room is taken, is true")
			}
			differs(t, "P1301: Up of the one that went", h, want)
		}
	}
}

// TestDownOfNoneMakesNoRoom has a full one, in which a next hop without a use goes Down again and again.
func TestDownOfNoneMakesNoRoom(t *testing.T) {
	h, want := holding(3)
	for range 5 {
		for _, n := range slices.Concat(below, far) {
			if h.Down(n) || h.Up(n) {
				t.Fatalf("P1301: Down or Up of %d, which has none, is true", n)
			}
		}
	}
	differs(t, "P1301: Down of none", h, want)
}

// TestUpOfNoneTakesNoRoom asks for what is refused ahead of what there is room for.
func TestUpOfNoneTakesNoRoom(t *testing.T) {
	h := hops.New(2)
	for _, n := range below {
		h.Up(n)
		h.Down(n)
		h.Uses(n)
	}
	for _, n := range far {
		h.Down(n)
		h.Uses(n)
	}
	if !h.Up(4) || !h.Up(8) || h.Up(12) {
		t.Error("P1301: what was refused took room")
	}
	differs(t, "P1301: two of what was asked", h, map[int]int{4: 1, 8: 1})
}

// TestOthersStay turns each of the next hops that are easily mistaken for another.
func TestOthersStay(t *testing.T) {
	h, want := hops.New(len(far)), map[int]int{}
	for i, n := range far {
		raise(h, n, i+2)
		want[n] = i + 2
		differs(t, "P1301: each with its own", h, want)
	}
	for _, n := range far {
		if !h.Down(n) {
			t.Fatalf("P1301: Down(%d) is false", n)
		}
		want[n]--
		differs(t, "P1301: Down of one of many", h, want)
	}
	for _, n := range far {
		for want[n] > 0 {
			h.Down(n)
			want[n]--
		}
		delete(want, n)
		differs(t, "P1301: one of many has none any more", h, want)
	}
}

func TestManyUses(t *testing.T) {
	const many = 1<<17 + 3
	h := hops.New(1)
	for i := range many {
		if !h.Up(6) {
			t.Fatalf("P1301: Up at %d is false", i)
		}
		if got := h.Uses(6); got != i+1 || h.Count() != 1 {
			t.Fatalf("P1301: %d uses are %d, of %d", i+1, got, h.Count())
		}
	}
	for i := range many {
		if got := h.Uses(6); got != many-i || h.Count() != 1 {
			t.Fatalf("P1301: %d uses are %d, of %d", many-i, got, h.Count())
		}
		if !h.Down(6) {
			t.Fatalf("P1301: Down at %d is false", many-i)
		}
	}
	differs(t, "P1301: as many Up as Down", h, nil)
}

// TestManyThatCameAndWent has far more next hops than there can be at once, one behind the other.
func TestManyThatCameAndWent(t *testing.T) {
	h := hops.New(3)
	h.Up(0)
	for n := range 5000 {
		if !h.Up(n+1) || !h.Up(n+9000) || h.Up(20000) {
			t.Fatalf("P1301: Up of two more in the room for two, as the %d. pair", n)
		}
		if !h.Down(n+1) || !h.Down(n+9000) || h.Down(n+1) {
			t.Fatalf("P1301: Down of the two again, as the %d. pair", n)
		}
	}
	differs(t, "P1301: what stayed", h, map[int]int{0: 1})
}

// story turns one by numbers that follow from seed, and tells all that was answered, or nothing where a plain form has it otherwise.
func story(seed uint64, most, steps int) []int {
	h, want := hops.New(most), &plain{most: most}
	x := seed
	next := func(n int) int {
		x = x*6364136223846793005 + 1442695040888963407
		return int(x >> 33 % uint64(n))
	}
	var out []int
	for range steps {
		n := next(most+4) - 2
		got, turned := false, false
		if next(2) == 0 {
			got, turned = h.Up(n), want.up(n)
		} else {
			got, turned = h.Down(n), want.down(n)
		}
		if got != turned || h.Count() != want.count() {
			return nil
		}
		for i := range most + 4 {
			if h.Uses(i-2) != want.uses(i-2) {
				return nil
			}
		}
		out = append(out, n, h.Uses(n), h.Count())
	}
	return out
}

func TestAgainstAPlainForm(t *testing.T) {
	for most := range api.MaxHops + 1 {
		if story(uint64(most)+1, most, 1000) == nil {
			t.Errorf("P1301: one of %d has not counted what a plain one has", most)
		}
	}
}

func TestNil(t *testing.T) {
	var none *hops.Hops
	for _, n := range slices.Concat(below, far) {
		if none.Up(n) || none.Down(n) || none.Uses(n) != 0 || none.Count() != 0 {
			t.Errorf("P1302: %d of a nil one: %v, %v, %d, %d", n, none.Up(n), none.Down(n), none.Uses(n), none.Count())
		}
	}
	var zero hops.Hops
	for _, n := range slices.Concat(below, far) {
		if zero.Up(n) || zero.Down(n) || zero.Uses(n) != 0 || zero.Count() != 0 {
			t.Errorf("P1302: %d of the zero value: %v, %v, %d, %d", n, zero.Up(n), zero.Down(n), zero.Uses(n), zero.Count())
		}
	}
}

func TestTwoHaveNothingInCommon(t *testing.T) {
	one, wantOne := holding(5)
	two, wantTwo := hops.New(3), map[int]int{100: 2, 1: 1}
	raise(two, 100, 2)
	two.Up(1)
	differs(t, "P1302: one of two", one, wantOne)
	differs(t, "P1302: the other of two", two, wantTwo)
	before := maps.Clone(wantTwo)
	for n, uses := range wantOne {
		for range uses {
			one.Down(n)
		}
	}
	differs(t, "P1302: one that was emptied", one, nil)
	differs(t, "P1302: the other one of it", two, before)
	if !two.Up(2) || two.Up(3) {
		t.Error("P1302: the room of one is the other's")
	}
	differs(t, "P1302: a third one", hops.New(5), nil)
}

func TestAskingTurnsNothing(t *testing.T) {
	h, want := holding(4)
	for range 3 {
		differs(t, "P1302: asked again", h, want)
	}
	if h.Up(9) {
		t.Error("P1302: asking made room")
	}
}

func TestAnswersHangOnWhatWasToldAlone(t *testing.T) {
	want := story(5, 20, 2000)
	again := make([][]int, 8)
	var wait sync.WaitGroup
	for i := range again {
		wait.Go(func() { again[i] = story(5, 20, 2000) })
	}
	wait.Wait()
	for _, got := range again {
		if want == nil || !slices.Equal(got, want) {
			t.Fatal("P1302: the same was told, another was answered")
		}
	}
}
