package mirror_test

import (
	"math"
	"sync"
	"testing"

	"flocculus/api"
	"flocculus/mirror"
)

// edges are sizes about the ends of words, of bytes, and of what there can be.
var edges = []int{0, 1, 2, 5, 7, 8, 9, 31, 32, 33, 63, 64, 65, 127, 128, 129, 191, 192, 193, 1000, api.MaxBits - 1, api.MaxBits}

// outside are numbers that no bit of n has, also those that fall into the room its last word has to spare.
func outside(n int) []int {
	out := []int{-1, -2, -8, -63, -64, -65, -n - 1, -api.MaxBits, math.MinInt32, -1 << 32, -1 << 60, math.MinInt + 1, math.MinInt}
	for i := n; i < n+130; i++ {
		out = append(out, i)
	}
	return append(out, 2*n+1, api.MaxBits, api.MaxBits+1, math.MaxInt32, 1<<32, 1<<60, 1<<62, math.MaxInt-1, math.MaxInt)
}

// plain are bits a bool each: the form against which the packed ones are held.
type plain []bool

func (p plain) set(i int, on bool) {
	if i >= 0 && i < len(p) {
		p[i] = on
	}
}

func (p plain) count() int {
	n := 0
	for _, on := range p {
		if on {
			n++
		}
	}
	return n
}

// pattern is n bits, of which those are on that on tells.
func pattern(n int, on func(i int) bool) plain {
	p := make(plain, n)
	for i := range p {
		p[i] = on(i)
	}
	return p
}

// some are bits on and off in runs of all lengths, another row for each start.
func some(n, start int) plain {
	return pattern(n, func(i int) bool { return (i+start)*(i+start)/7%3 == 0 })
}

// packed makes bits that are as want, told from the last to the first.
func packed(want plain) *mirror.Bits {
	b := mirror.New(len(want))
	for i := len(want) - 1; i >= 0; i-- {
		b.Set(i, want[i])
	}
	return b
}

// same fails the test where b is not as want.
func same(t *testing.T, what string, b *mirror.Bits, want plain) {
	t.Helper()
	if got := b.Len(); got != len(want) {
		t.Fatalf("%s: Len is %d, want %d", what, got, len(want))
	}
	if got := b.Count(); got != want.count() {
		t.Fatalf("%s: Count of %d bits is %d, want %d", what, len(want), got, want.count())
	}
	for i, on := range want {
		if got := b.Get(i); got != on {
			t.Fatalf("%s: Get(%d) of %d is %v, want %v", what, i, len(want), got, on)
		}
	}
}

func TestNewHasAsManyAllOff(t *testing.T) {
	for _, n := range edges {
		same(t, "P801: a new one", mirror.New(n), make(plain, n))
	}
}

func TestNewCutsItsNumber(t *testing.T) {
	for _, n := range []int{-1, -2, -63, -64, -65, -api.MaxBits, -api.MaxBits - 1, math.MinInt32, math.MinInt + 1, math.MinInt} {
		b := mirror.New(n)
		b.Set(0, true)
		same(t, "P801: fewer than none", b, plain{})
	}
	all := pattern(api.MaxBits, func(int) bool { return true })
	for _, n := range []int{api.MaxBits + 1, api.MaxBits + 64, 2 * api.MaxBits, math.MaxInt32, 1 << 32, 1 << 60, math.MaxInt - 1, math.MaxInt} {
		b := mirror.New(n)
		same(t, "P801: more than there can be", b, make(plain, api.MaxBits))
		for i := range 2 * api.MaxBits {
			b.Set(i, true)
		}
		same(t, "P801: as many as there can be, all on", b, all)
	}
}

// TestOneAmongOthers turns each bit on and off, twice each, among others that are all off, all on, or some.
func TestOneAmongOthers(t *testing.T) {
	for _, n := range []int{1, 2, 63, 64, 65, 130} {
		for _, others := range []plain{make(plain, n), pattern(n, func(int) bool { return true }), some(n, 1)} {
			for i := range n {
				want := append(plain{}, others...)
				b := packed(want)
				for _, on := range []bool{true, true, false, false, true} {
					b.Set(i, on)
					want.set(i, on)
					same(t, "P801: one bit among others", b, want)
				}
			}
		}
	}
}

func TestCountGoesUpAndDown(t *testing.T) {
	for _, n := range edges {
		b := mirror.New(n)
		for i := range n {
			b.Set(i, true)
			if got := b.Count(); got != i+1 {
				t.Fatalf("P801: Count of %d bits is %d, %d are on", n, got, i+1)
			}
		}
		same(t, "P801: all on", b, pattern(n, func(int) bool { return true }))
		for i := range n {
			b.Set(i, false)
			if got := b.Count(); got != n-i-1 {
				t.Fatalf("P801: Count of %d bits is %d, %d are on", n, got, n-i-1)
			}
		}
		same(t, "P801: all off again", b, make(plain, n))
	}
}

func TestNoSuchBit(t *testing.T) {
	for _, n := range edges {
		for _, want := range []plain{make(plain, n), pattern(n, func(int) bool { return true }), some(n, 0)} {
			b := packed(want)
			for _, i := range outside(n) {
				for _, on := range []bool{true, false, true} {
					b.Set(i, on)
					if b.Get(i) {
						t.Fatalf("P801: Get(%d) of %d is true", i, n)
					}
					if got := b.Count(); got != want.count() {
						t.Fatalf("P801: Set(%d, %v) of %d: Count is %d, want %d", i, on, n, got, want.count())
					}
				}
			}
			same(t, "P801: Set of none", b, want)
		}
	}
}

// TestFirstAndLast asks for the two bits at the ends of each size, as they are easily missed.
func TestFirstAndLast(t *testing.T) {
	for _, n := range edges[1:] {
		b := mirror.New(n)
		b.Set(0, true)
		b.Set(n-1, true)
		same(t, "P801: the first and the last", b, pattern(n, func(i int) bool { return i == 0 || i == n-1 }))
	}
}

// told turns n bits in steps that follow from seed, and answers the bits and what they must be; right is false as soon as one answer on the way is wrong.
func told(seed uint64, n, steps int) (b *mirror.Bits, want plain, right bool) {
	b, want, right = mirror.New(n), make(plain, n), true
	for range steps {
		seed = seed*6364136223846793005 + 1442695040888963407
		// One step in some goes to no bit.
		i, on := int(seed>>33%uint64(n+4))-2, seed>>62 > 0
		b.Set(i, on)
		want.set(i, on)
		there := i >= 0 && i < n && want[i]
		right = right && b.Get(i) == there && b.Count() == want.count()
	}
	return b, want, right
}

func TestAgainstAPlainForm(t *testing.T) {
	for n := range 200 {
		b, want, right := told(uint64(n), n, 600)
		if !right {
			t.Errorf("P801: %d bits were not as plain ones on the way", n)
		}
		same(t, "P801: as many steps", b, want)
	}
	b, want, right := told(77, 5000, 20000)
	if !right {
		t.Error("P801: 5000 bits were not as plain ones on the way")
	}
	same(t, "P801: many steps", b, want)
}

// TestNone holds for the nil one what the chapter says, and for the zero value that it has no bit.
func TestNone(t *testing.T) {
	for name, b := range map[string]*mirror.Bits{"a nil one": nil, "the zero value": {}, "one of no bits": mirror.New(0)} {
		for _, i := range append(outside(0), 0, 1, 63, 64) {
			b.Set(i, true)
			b.Set(i, false)
			b.Set(i, true)
			if b.Get(i) {
				t.Errorf("P802: Get(%d) of %s is true", i, name)
			}
		}
		if b.Len() != 0 || b.Count() != 0 {
			t.Errorf("P802: %s: Len %d, Count %d", name, b.Len(), b.Count())
		}
	}
}

func TestTwoHaveNothingInCommon(t *testing.T) {
	for _, n := range edges {
		one, two := mirror.New(n), mirror.New(n)
		wantOne, wantTwo := some(n, 0), some(n, 5)
		for i := range n {
			one.Set(i, wantOne[i])
			two.Set(i, wantTwo[i])
		}
		same(t, "P802: one of two", one, wantOne)
		same(t, "P802: the other of two", two, wantTwo)
		same(t, "P802: a third one", mirror.New(n), make(plain, n))
	}
}

func TestAskingTurnsNothing(t *testing.T) {
	want := some(150, 3)
	b := packed(want)
	for range 4 {
		for _, i := range outside(150) {
			b.Get(i)
		}
		same(t, "P802: asked again", b, want)
	}
}

func TestAnswersHangOnWhatWasToldAlone(t *testing.T) {
	_, want, _ := told(5, 300, 3000)
	again := make([]*mirror.Bits, 8)
	var wait sync.WaitGroup
	for i := range again {
		wait.Go(func() { again[i], _, _ = told(5, 300, 3000) })
	}
	wait.Wait()
	for _, b := range again {
		same(t, "P802: told the same", b, want)
	}
}
