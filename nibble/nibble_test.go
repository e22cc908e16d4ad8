package nibble_test

import (
	"math"
	"math/big"
	"slices"
	"sync"
	"testing"

	"flocculus/api"
	"flocculus/nibble"
)

// sizes are how many counters are asked for, and how many there are then.
var sizes = []struct{ n, want int }{
	{0, 0}, {1, 1}, {2, 2}, {5, 5}, {15, 15}, {16, 16}, {17, 17}, {31, 31}, {32, 32}, {33, 33}, {1000, 1000},
	{api.MaxBits - 1, api.MaxBits - 1}, {api.MaxBits, api.MaxBits}, {api.MaxBits + 1, api.MaxBits}, {math.MaxInt32, api.MaxBits}, {1 << 40, api.MaxBits}, {math.MaxInt - 1, api.MaxBits}, {math.MaxInt, api.MaxBits},
	{-1, 0}, {-16, 0}, {-api.MaxBits, 0}, {math.MinInt32, 0}, {math.MinInt + 1, 0}, {math.MinInt, 0},
}

// outside are numbers that no counter of n has.
func outside(n int) []int {
	return []int{-1, -2, -15, -16, -17, -n, -n - 1, n, n + 1, n + 15, n + 16, n + 17, 2*n + 1, api.MaxBits, api.MaxBits + 1, math.MaxInt32, 1 << 32, 1 << 60, 1 << 62, math.MaxInt - 1, math.MaxInt, math.MinInt32, -1 << 32, -1 << 60, math.MinInt + 1, math.MinInt}
}

// plain are counters a number each: the form against which the packed ones are held.
type plain []int

func (p plain) up(i int) bool {
	if i < 0 || i >= len(p) || p[i] == 15 {
		return false
	}
	p[i]++
	return true
}

func (p plain) down(i int) bool {
	if i < 0 || i >= len(p) || p[i] == 0 || p[i] == 15 {
		return false
	}
	p[i]--
	return true
}

func (p plain) full() int {
	full := 0
	for _, x := range p {
		if x == 15 {
			full++
		}
	}
	return full
}

// differs fails the test where b has not counted what want has.
func differs(t *testing.T, what string, b *nibble.Nibbles, want plain) {
	t.Helper()
	if got := b.Len(); got != len(want) {
		t.Fatalf("%s: Len is %d, want %d", what, got, len(want))
	}
	for i, x := range want {
		if got := b.Get(i); got != x {
			t.Fatalf("%s: Get(%d) of %d is %d, want %d", what, i, len(want), got, x)
		}
	}
	if got := b.Full(); got != want.full() {
		t.Fatalf("%s: Full is %d, want %d", what, got, want.full())
	}
}

// raise counts counter i up by as many.
func raise(b *nibble.Nibbles, i, by int) {
	for range by {
		b.Up(i)
	}
}

func TestNew(t *testing.T) {
	for _, s := range sizes {
		b := nibble.New(s.n)
		if b == nil {
			t.Fatalf("P701: New(%d) is nil", s.n)
		}
		differs(t, "P701: a new one", b, make(plain, s.want))
	}
}

func TestTheFirstAndTheLastAreThere(t *testing.T) {
	for _, s := range sizes {
		b, want := nibble.New(s.n), make(plain, s.want)
		for _, i := range []int{0, s.want - 1} {
			if got := b.Up(i); got != want.up(i) {
				t.Errorf("P701: New(%d): Up(%d) is %v", s.n, i, got)
			}
		}
		differs(t, "P701: the first and the last Up", b, want)
	}
}

func TestUpToTheTop(t *testing.T) {
	b := nibble.New(5)
	for n := range 15 {
		if got := b.Get(3); got != n {
			t.Fatalf("P701: Get(3) is %d after Up %d times", got, n)
		}
		if b.Full() != 0 {
			t.Fatalf("P701: Full is %d at %d", b.Full(), n)
		}
		if !b.Up(3) {
			t.Fatalf("P701: Up at %d is false", n)
		}
	}
	for range 40 {
		if b.Up(3) {
			t.Fatal("P701: Up at the top is true")
		}
		differs(t, "P701: Up at the top", b, plain{0, 0, 0, 15, 0})
	}
}

func TestDownFromTheTopStays(t *testing.T) {
	b := nibble.New(5)
	raise(b, 3, 100)
	for range 40 {
		if b.Down(3) {
			t.Fatal("P701: Down at the top is true")
		}
		differs(t, "P701: Down at the top", b, plain{0, 0, 0, 15, 0})
	}
}

func TestDownFromBelowTheTop(t *testing.T) {
	for from := range 15 {
		b := nibble.New(3)
		raise(b, 1, from)
		for n := from; n > 0; n-- {
			if !b.Down(1) {
				t.Fatalf("P701: Down at %d is false", n)
			}
			differs(t, "P701: Down", b, plain{0, n - 1, 0})
		}
		for range 3 {
			if b.Down(1) {
				t.Fatal("P701: Down at 0 is true")
			}
			differs(t, "P701: Down at 0", b, plain{0, 0, 0})
		}
		if !b.Up(1) || b.Get(1) != 1 {
			t.Errorf("P701: Up behind Down at 0 leads to %d", b.Get(1))
		}
	}
}

// TestOthersStay turns each counter at each number among others at each number.
func TestOthersStay(t *testing.T) {
	for _, n := range []int{1, 2, 15, 16, 17, 33} {
		for others := range 16 {
			for i := range n {
				b := nibble.New(n)
				want := make(plain, n)
				for j := range want {
					if j != i {
						want[j] = others
						raise(b, j, others)
					}
				}
				for range 16 {
					if got := b.Up(i); got != want.up(i) {
						t.Fatalf("P701: Up(%d) at %d is %v", i, want[i], got)
					}
					differs(t, "P701: Up among others", b, want)
				}
			}
		}
	}
}

// TestOthersStayWhenDown comes down from each number below the top, among others at each number.
func TestOthersStayWhenDown(t *testing.T) {
	for _, n := range []int{1, 2, 15, 16, 17, 33} {
		for others := range 16 {
			b := nibble.New(n)
			want := make(plain, n)
			for j := range want {
				want[j] = others
				raise(b, j, others)
			}
			for i := range n {
				for range 16 {
					if got := b.Down(i); got != want.down(i) {
						t.Fatalf("P701: Down(%d) at %d is %v", i, want[i], got)
					}
					differs(t, "P701: Down among others", b, want)
				}
			}
		}
	}
}

func TestNoSuchCounter(t *testing.T) {
	for _, n := range []int{0, 1, 5, 15, 16, 17, 32, api.MaxBits} {
		b := nibble.New(n)
		want := make(plain, n)
		for i := range want {
			want[i] = i % 16
			raise(b, i, want[i])
		}
		for _, i := range outside(n) {
			if i >= 0 && i < n {
				continue
			}
			for range 16 {
				if b.Up(i) {
					t.Errorf("P701: Up(%d) of %d is true", i, n)
				}
			}
			if b.Down(i) || b.Get(i) != 0 {
				t.Errorf("P701: Down(%d), Get of %d are %v, %d", i, n, b.Down(i), b.Get(i))
			}
		}
		differs(t, "P701: Up and Down of none", b, want)
	}
}

func TestFull(t *testing.T) {
	for _, n := range []int{1, 16, 17, 100, 257} {
		b := nibble.New(n)
		for i := range n {
			raise(b, i, 14)
			if got := b.Full(); got != i {
				t.Fatalf("P701: Full is %d, want %d: counter %d is at 14", got, i, i)
			}
			b.Up(i)
			if got := b.Full(); got != i+1 {
				t.Fatalf("P701: Full is %d, want %d", got, i+1)
			}
		}
	}
}

// TestFullOfEachPairOfNumbers has two neighbours at all numbers: no bits of both together may pass for a counter at the top.
func TestFullOfEachPairOfNumbers(t *testing.T) {
	for x := range 16 {
		for y := range 16 {
			for _, i := range []int{0, 7, 15, 16} {
				b, want := nibble.New(18), make(plain, 18)
				want[i], want[i+1] = x, y
				raise(b, i, x)
				raise(b, i+1, y)
				differs(t, "P701: two neighbours", b, want)
			}
		}
	}
}

func TestFullOfAsManyAsThereCanBe(t *testing.T) {
	b := nibble.New(math.MaxInt)
	for i := range api.MaxBits {
		raise(b, i, 20)
	}
	if got := b.Full(); got != api.MaxBits {
		t.Errorf("P701: Full is %d, want %d", got, api.MaxBits)
	}
}

// story turns n counters by numbers that follow from seed, and tells all that was answered.
func story(seed int64, n, steps int) []int {
	var out []int
	b, want := nibble.New(n), make(plain, n)
	x, by := big.NewInt(seed), big.NewInt(48271)
	beyond := big.NewInt(math.MaxInt32)
	next := func(most int) int {
		x.Mod(x.Mul(x, by), beyond)
		return int(x.Int64() / 7 % int64(most))
	}
	for range steps {
		// One step in some goes to no counter.
		i := next(n+2) - 1
		got, turned := false, false
		if next(5) > 1 {
			got, turned = b.Up(i), want.up(i)
		} else {
			got, turned = b.Down(i), want.down(i)
		}
		if got != turned {
			return nil
		}
		out = append(out, i, b.Get(i), b.Full())
		if i >= 0 && i < n && b.Get(i) != want[i] || b.Full() != want.full() {
			return nil
		}
	}
	for i, x := range want {
		if b.Get(i) != x {
			return nil
		}
	}
	return out
}

func TestAgainstAPlainForm(t *testing.T) {
	for n := range 70 {
		if story(int64(n)+1, n, 2000) == nil {
			t.Errorf("P701: %d counters have not counted what plain ones have", n)
		}
	}
	if story(99, 3000, 60000) == nil {
		t.Error("P701: 3000 counters have not counted what plain ones have")
	}
}

func TestNil(t *testing.T) {
	var none *nibble.Nibbles
	for _, i := range append(outside(0), 0, 1, 16) {
		if none.Get(i) != 0 || none.Up(i) || none.Down(i) {
			t.Errorf("P702: counter %d of a nil one: %d, %v, %v", i, none.Get(i), none.Up(i), none.Down(i))
		}
	}
	if none.Len() != 0 || none.Full() != 0 {
		t.Errorf("P702: a nil one: Len %d, Full %d", none.Len(), none.Full())
	}
	var empty nibble.Nibbles
	if empty.Get(0) != 0 || empty.Up(0) || empty.Down(0) || empty.Len() != 0 || empty.Full() != 0 {
		t.Error("P702: the zero value has a counter")
	}
}

func TestTwoHaveNothingInCommon(t *testing.T) {
	for _, n := range []int{1, 5, 16, 40, api.MaxBits} {
		one, two := nibble.New(n), nibble.New(n)
		wantOne, wantTwo := make(plain, n), make(plain, n)
		for i := range n {
			wantOne[i], wantTwo[i] = i%16, (i+9)%16
			raise(one, i, wantOne[i])
			raise(two, i, wantTwo[i])
		}
		differs(t, "P702: one of two", one, wantOne)
		differs(t, "P702: the other of two", two, wantTwo)
		differs(t, "P702: a third one", nibble.New(n), make(plain, n))
	}
}

func TestAskingTurnsNothing(t *testing.T) {
	b := nibble.New(20)
	want := make(plain, 20)
	for i := range want {
		want[i] = i % 16
		raise(b, i, want[i])
	}
	for range 3 {
		differs(t, "P702: asked again", b, want)
	}
}

func TestAnswersHangOnWhatWasToldAlone(t *testing.T) {
	want := story(5, 50, 3000)
	again := make([][]int, 8)
	var wait sync.WaitGroup
	for i := range again {
		wait.Go(func() { again[i] = story(5, 50, 3000) })
	}
	wait.Wait()
	for _, got := range again {
		if want == nil || !slices.Equal(got, want) {
			t.Fatal("P702: the same was told, another was answered")
		}
	}
}
