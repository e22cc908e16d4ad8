package cuckoo_test

import (
	"cmp"
	"maps"
	"math"
	"slices"
	"sync"
	"testing"

	"flocculus/api"
	"flocculus/cuckoo"
	"flocculus/mixer"
	"flocculus/pick"
)

const ones = math.MaxUint64

// wrongSizes are numbers of buckets that no table has.
var wrongSizes = []int{0, -1, -2, -api.MaxBits, api.MaxBits + 1, 2 * api.MaxBits, math.MaxInt32, 1 << 32, 1<<32 + 1, 1 << 62, math.MaxInt - 1, math.MaxInt, math.MinInt32, -1 << 32, math.MinInt + 1, math.MinInt}

// strange are keys that are no prefixes, and prefixes at the edges; none is there twice.
var strange = []api.Prefix{
	{}, {Len: 1}, {Len: -1}, {Len: 128}, {Len: 129}, {Len: math.MaxInt}, {Len: math.MinInt},
	prefix(0, 1, 0), prefix(1, 0, 0), prefix(1<<63, 0, 0), prefix(1<<63, 0, 1), prefix(0, 1<<63, 65), prefix(0, 1<<63, -65),
	prefix(ones, 0, 64), prefix(0, ones, 64), prefix(ones, ones, 128), prefix(ones, ones, 0), prefix(ones, ones-1, 128), prefix(ones-1, ones, math.MinInt),
}

// chance makes numbers that look like chance, the same each time.
type chance uint64

func (c *chance) next(most int) int {
	*c = *c*6364136223846793005 + 1442695040888963407
	return int(uint64(*c)>>33) % most
}

func prefix(hi, lo uint64, n int) api.Prefix {
	return api.Prefix{Addr: api.Addr{Hi: hi, Lo: lo}, Len: n}
}

// key is a prefix of an IPv4 shape.
func key(n int) api.Prefix {
	return prefix(uint64(n)<<32, 0, 32)
}

// route leads key n to 100 more than n.
func route(n int) api.Route {
	return api.Route{Prefix: key(n), Hop: n + 100}
}

// byLess orders as addr.Less does.
func byLess(a, b api.Prefix) int {
	return cmp.Or(cmp.Compare(a.Addr.Hi, b.Addr.Hi), cmp.Compare(a.Addr.Lo, b.Addr.Lo), cmp.Compare(a.Len, b.Len))
}

func routesByLess(a, b api.Route) int {
	return byLess(a.Prefix, b.Prefix)
}

// plain is a table by the chapter's own words, held in maps: what is at each place of each bucket, and what is in the stash.
type plain struct {
	seed  uint64
	n     int
	at    map[[2]int]api.Route
	stash map[api.Prefix]int
	// grown counts how often it grew, and deep how often while it grew already.
	grown, deep, growing int
}

func newPlain(seed uint64, n int) *plain {
	return &plain{seed: seed, n: n, at: map[[2]int]api.Route{}, stash: map[api.Prefix]int{}}
}

func (w *plain) buckets(p api.Prefix) [2]int {
	a, b := pick.Buckets(w.seed, p, w.n)
	return [2]int{a, b}
}

// where is the bucket and the place of p; false where it is in none.
func (w *plain) where(p api.Prefix) ([2]int, bool) {
	for _, b := range w.buckets(p) {
		for i := range 4 {
			if r, ok := w.at[[2]int{b, i}]; ok && r.Prefix == p {
				return [2]int{b, i}, true
			}
		}
	}
	return [2]int{}, false
}

// lay lays r at the first empty place of a bucket.
func (w *plain) lay(b int, r api.Route) bool {
	for i := range 4 {
		if _, ok := w.at[[2]int{b, i}]; !ok {
			w.at[[2]int{b, i}] = r
			return true
		}
	}
	return false
}

func (w *plain) put(p api.Prefix, v int) {
	r := api.Route{Prefix: p, Hop: v}
	if at, ok := w.where(p); ok {
		w.at[at] = r
		return
	}
	if _, ok := w.stash[p]; ok {
		w.stash[p] = v
		return
	}
	two := w.buckets(p)
	if w.lay(two[0], r) || w.lay(two[1], r) {
		return
	}
	for i, b := 0, two[1]; i < 16; i++ {
		place := [2]int{b, i % 4}
		r, w.at[place] = w.at[place], r
		if two = w.buckets(r.Prefix); two[0] == b {
			b = two[1]
		} else {
			b = two[0]
		}
		if w.lay(b, r) {
			return
		}
	}
	w.stash[r.Prefix] = r.Hop
	if len(w.stash) > 8 && w.n < 65536 {
		w.grow()
	}
}

func (w *plain) grow() {
	w.grown++
	if w.growing > 0 {
		w.deep++
	}
	w.growing++
	var all []api.Route
	for b := range w.n {
		for i := range 4 {
			if r, ok := w.at[[2]int{b, i}]; ok {
				all = append(all, r)
			}
		}
	}
	for _, p := range slices.SortedFunc(maps.Keys(w.stash), byLess) {
		all = append(all, api.Route{Prefix: p, Hop: w.stash[p]})
	}
	w.seed, w.n = mixer.Mix(w.seed), min(2*w.n, 65536)
	clear(w.at)
	clear(w.stash)
	for _, r := range all {
		w.put(r.Prefix, r.Hop)
	}
	w.growing--
}

func (w *plain) get(p api.Prefix) (int, bool, []int) {
	two := w.buckets(p)
	if at, ok := w.where(p); ok && at[0] == two[0] {
		return w.at[at].Hop, true, two[:1]
	} else if ok {
		return w.at[at].Hop, true, two[:]
	}
	v, ok := w.stash[p]
	return v, ok, two[:]
}

func (w *plain) remove(p api.Prefix) bool {
	_, aside := w.stash[p]
	at, ok := w.where(p)
	delete(w.stash, p)
	if ok {
		delete(w.at, at)
	}
	return ok || aside
}

func (w *plain) all() []api.Route {
	out := slices.Collect(maps.Values(w.at))
	for p, v := range w.stash {
		out = append(out, api.Route{Prefix: p, Hop: v})
	}
	slices.SortFunc(out, routesByLess)
	return out
}

// table makes one that there can be.
func table(t *testing.T, seed uint64, n int) *cuckoo.Table {
	t.Helper()
	x, e := cuckoo.New(seed, n)
	if x == nil || e != api.OK {
		t.Fatalf("P1201: New(%#x, %d): %v, %d", seed, n, x, e)
	}
	return x
}

// pair makes a table, and its plain form.
func pair(t *testing.T, seed uint64, n int) (*cuckoo.Table, *plain) {
	t.Helper()
	return table(t, seed, n), newPlain(seed, n)
}

// sized tells whether Size and Len are as the plain form has them.
func sized(x *cuckoo.Table, w *plain) bool {
	seed, n, stash := x.Size()
	return seed == w.seed && n == w.n && stash == len(w.stash) && x.Len() == len(w.at)+len(w.stash)
}

// reads tells whether Get of p is as the plain form has it.
func reads(x *cuckoo.Table, w *plain, p api.Prefix) bool {
	v, ok, read := x.Get(p)
	v2, ok2, read2 := w.get(p)
	return v == v2 && ok == ok2 && slices.Equal(read, read2)
}

// alike tells whether x is as the plain form in all that can be asked of it.
func alike(x *cuckoo.Table, w *plain) bool {
	want := w.all()
	if !sized(x, w) || !slices.Equal(x.All(), want) {
		return false
	}
	return !slices.ContainsFunc(want, func(r api.Route) bool { return !reads(x, w, r.Prefix) })
}

// same fails the test where x is not as its plain form.
func same(t *testing.T, what string, x *cuckoo.Table, w *plain) {
	t.Helper()
	if alike(x, w) {
		return
	}
	seed, n, stash := x.Size()
	t.Fatalf("%s: %d keys, %#x, %d buckets, %d in the stash: %v, want %d keys, %#x, %d, %d: %v", what,
		x.Len(), seed, n, stash, x.All(), len(w.at)+len(w.stash), w.seed, w.n, len(w.stash), w.all())
}

// numbers are those from first to last.
func numbers(first, last int) []int {
	var out []int
	for i := first; i <= last; i++ {
		out = append(out, i)
	}
	return out
}

// queue puts keys 1 to n into a table of one bucket. Of 16 kicks around its places the oldest key is left each time: it comes to the stash.
func queue(t *testing.T, n int) *cuckoo.Table {
	t.Helper()
	x := table(t, 7, 1)
	for i := range n {
		x.Put(key(i+1), i+101)
	}
	return x
}

// holds fails the test where a table of one bucket has not the keys of inside in it, and those of stash aside.
func holds(t *testing.T, what string, x *cuckoo.Table, inside, stash []int) {
	t.Helper()
	var want []api.Route
	for _, n := range append(slices.Clone(inside), stash...) {
		want = append(want, route(n))
		read := []int{0, 0}
		if slices.Contains(inside, n) {
			read = read[:1]
		}
		if v, ok, got := x.Get(key(n)); v != n+100 || !ok || !slices.Equal(got, read) {
			t.Fatalf("%s: Get of key %d is %d, %v, %v, want %v", what, n, v, ok, got, read)
		}
	}
	slices.SortFunc(want, routesByLess)
	seed, n, aside := x.Size()
	if seed != 7 || n != 1 || aside != len(stash) || x.Len() != len(want) || !slices.Equal(x.All(), want) {
		t.Fatalf("%s: %#x, %d buckets, %d in the stash, %d keys: %v, want %v", what, seed, n, aside, x.Len(), x.All(), want)
	}
}

func TestNewOfWhatThereCanBe(t *testing.T) {
	for _, n := range []int{1, 2, 3, 1000, api.MaxBits - 1, api.MaxBits} {
		for _, seed := range []uint64{0, 1, 1 << 63, ones} {
			x, w := pair(t, seed, n)
			same(t, "P1201: a new one", x, w)
			for _, p := range strange {
				if !reads(x, w, p) || x.Delete(p) {
					t.Fatalf("P1202: a new one of %d: %v is there", n, p)
				}
			}
			same(t, "P1202: a new one that was asked", x, w)
		}
	}
}

func TestNewRefuses(t *testing.T) {
	for _, n := range wrongSizes {
		for _, seed := range []uint64{0, 7, ones} {
			if x, e := cuckoo.New(seed, n); x != nil || e != api.ErrArg {
				t.Errorf("P1201: New(%#x, %d): nil is %v, error %d, want nil and %d", seed, n, x == nil, e, api.ErrArg)
			}
		}
	}
}

// TestOneBucketIsAQueue has what was worked out by hand: each kick goes to the next place, from the first on.
func TestOneBucketIsAQueue(t *testing.T) {
	for n := range 13 {
		holds(t, "P1201: one bucket", queue(t, n), numbers(max(1, n-3), n), numbers(1, n-4))
	}
	x := queue(t, 13)
	if seed, n, stash := x.Size(); seed != mixer.Mix(7) || n < 2 || stash > 8 {
		t.Errorf("P1201: nine in the stash: it is %#x, %d buckets, %d in the stash", seed, n, stash)
	}
}

// TestWhatIsThereGetsTheValue puts each of the keys in the bucket and in the stash once more: none moves, the table neither grows.
func TestWhatIsThereGetsTheValue(t *testing.T) {
	for n := 1; n <= 12; n++ {
		for again := 1; again <= n; again++ {
			x := queue(t, n)
			_, _, before := x.Get(key(again))
			x.Put(key(again), -5)
			v, ok, read := x.Get(key(again))
			if v != -5 || !ok || !slices.Equal(read, before) {
				t.Fatalf("P1201: Put of key %d of %d: Get is %d, %v, %v, want %v", again, n, v, ok, read, before)
			}
			x.Put(key(again), again+100)
			holds(t, "P1201: Put of what is there", x, numbers(max(1, n-3), n), numbers(1, n-4))
		}
	}
}

// TestRoomIsNotTakenByTheStash has a key of the stash that stays there, though there is room in its bucket.
func TestRoomIsNotTakenByTheStash(t *testing.T) {
	x := queue(t, 6)
	if !x.Delete(key(4)) {
		t.Fatal("P1202: Delete of key 4 is false")
	}
	holds(t, "P1202: Delete of what is in the bucket", x, []int{3, 5, 6}, []int{1, 2})
	x.Put(key(1), 101)
	holds(t, "P1201: Put of what is in the stash", x, []int{3, 5, 6}, []int{1, 2})
	x.Put(key(9), 109)
	holds(t, "P1201: Put where there is room", x, []int{3, 5, 6, 9}, []int{1, 2})
}

func TestDelete(t *testing.T) {
	for n := 1; n <= 12; n++ {
		for gone := 1; gone <= n; gone++ {
			x := queue(t, n)
			if !x.Delete(key(gone)) {
				t.Fatalf("P1202: Delete of key %d of %d is false", gone, n)
			}
			without := func(l []int) []int { return slices.DeleteFunc(l, func(i int) bool { return i == gone }) }
			inside, stash := without(numbers(max(1, n-3), n)), without(numbers(1, n-4))
			for range 2 {
				holds(t, "P1202: Delete", x, inside, stash)
				if v, ok, read := x.Get(key(gone)); v != 0 || ok || !slices.Equal(read, []int{0, 0}) {
					t.Fatalf("P1202: Get of what was Deleted is %d, %v, %v", v, ok, read)
				}
				if x.Delete(key(gone)) {
					t.Fatalf("P1202: a second Delete of key %d of %d is true", gone, n)
				}
			}
		}
	}
}

// TestAKeyInItsSecondBucket has one whose first bucket has room again: it stays where it is.
func TestAKeyInItsSecondBucket(t *testing.T) {
	const seed, n = 3, 4
	// keys are one more than its places of those whose first bucket is number 1, and whose second is number 2.
	var keys []api.Prefix
	for i := 0; len(keys) < 5; i++ {
		if a, b := pick.Buckets(seed, key(i), n); a == 1 && b == 2 {
			keys = append(keys, key(i))
		}
	}
	x, w := pair(t, seed, n)
	for i, p := range keys {
		x.Put(p, i)
		w.put(p, i)
	}
	last := keys[4]
	if v, ok, read := x.Get(last); v != 4 || !ok || !slices.Equal(read, []int{1, 2}) {
		t.Fatalf("P1202: Get from the second bucket is %d, %v, %v", v, ok, read)
	}
	if v, ok, read := x.Get(keys[0]); v != 0 || !ok || !slices.Equal(read, []int{1}) {
		t.Fatalf("P1202: Get from the first bucket is %d, %v, %v", v, ok, read)
	}
	if !x.Delete(keys[0]) || !w.remove(keys[0]) {
		t.Fatal("P1202: Delete from the first bucket is false")
	}
	x.Put(last, -7)
	w.put(last, -7)
	if v, ok, read := x.Get(last); v != -7 || !ok || !slices.Equal(read, []int{1, 2}) {
		t.Fatalf("P1201: Put of what is in the second bucket: Get is %d, %v, %v", v, ok, read)
	}
	same(t, "P1201: Put of what is in the second bucket", x, w)
	if !x.Delete(last) || x.Delete(last) || !w.remove(last) {
		t.Fatal("P1202: Delete from the second bucket is false, or a second one true")
	}
	same(t, "P1202: Delete from the second bucket", x, w)
}

// story turns a table by numbers that follow from start, and holds it against its plain form at each step; right is false where they differed on the way.
func story(start uint64, n, keys, steps int) (x *cuckoo.Table, w *plain, right bool) {
	c := chance(start)
	seed := start * 0x9E3779B97F4A7C15
	x, _ = cuckoo.New(seed, n)
	w, right = newPlain(seed, n), true
	for range steps {
		p, q, v := key(c.next(keys)), key(c.next(keys)), c.next(2001)-1000
		if c.next(5) == 0 {
			p, q = strange[c.next(len(strange))], strange[c.next(len(strange))]
		}
		if c.next(4) == 0 {
			right = right && x.Delete(p) == w.remove(p)
		} else {
			x.Put(p, v)
			w.put(p, v)
		}
		right = right && sized(x, w) && reads(x, w, p) && reads(x, w, q)
	}
	return x, w, right && alike(x, w)
}

func TestAgainstAPlainForm(t *testing.T) {
	grown, stashed := 0, 0
	for n := 1; n <= 12; n++ {
		for start := range uint64(25) {
			for _, keys := range []int{3 * n, 6 * n, 20 * n} {
				_, w, right := story(100*uint64(n)+start, n, keys, 400)
				if !right {
					t.Errorf("P1201: %d buckets, %d keys, start %d: it does otherwise than a plain one", n, keys, start)
				}
				grown += w.grown
				stashed += len(w.stash)
			}
		}
	}
	if grown < 500 || stashed < 500 {
		t.Errorf("P1201: all of them grew %d times, and have %d keys in their stashes", grown, stashed)
	}
}

// TestItGrowsAsItGrows has keys that lie all in one bucket, of twice as many buckets and of four times as many, too: there is no room for them in the new table while they are Put anew.
func TestItGrowsAsItGrows(t *testing.T) {
	for n := 1; n <= 3; n++ {
		for start := range uint64(4) {
			x, w := pair(t, start, n)
			once := mixer.Mix(start)
			twice := mixer.Mix(once)
			for i, put := 0, 0; put < 40; i++ {
				a, b := pick.Buckets(once, key(i), 2*n)
				c, d := pick.Buckets(twice, key(i), 4*n)
				if a != 0 || b != 0 || c != 0 || d != 0 {
					continue
				}
				x.Put(key(i), put)
				w.put(key(i), put)
				put++
				same(t, "P1201: keys of one bucket", x, w)
			}
			if w.deep < 2 || w.n < 8*n {
				t.Errorf("P1201: it grew %d times, %d of them while it grew, to %d buckets", w.grown, w.deep, w.n)
			}
		}
	}
}

// TestItGrowsToTheMost fills tables whose buckets can't become twice as many, or not more at all.
func TestItGrowsToTheMost(t *testing.T) {
	for _, n := range []int{api.MaxBits - 1, api.MaxBits} {
		x, w := pair(t, 5, n)
		for i := range 4*api.MaxBits + 20 {
			x.Put(key(i), i)
			w.put(key(i), i)
		}
		same(t, "P1201: filled to the most", x, w)
		if w.grown != api.MaxBits-n || w.n != api.MaxBits || len(w.stash) < 20 {
			t.Errorf("P1201: from %d on it grew %d times to %d buckets, with %d in the stash", n, w.grown, w.n, len(w.stash))
		}
		aside := slices.SortedFunc(maps.Keys(w.stash), byLess)
		for i, p := range aside {
			if i%2 == 0 {
				x.Put(p, -i)
				w.put(p, -i)
			} else if !x.Delete(p) || !w.remove(p) {
				t.Fatalf("P1202: Delete of %v from the stash is false", p)
			}
		}
		same(t, "P1202: half the stash Deleted", x, w)
	}
}

func TestStrangeKeys(t *testing.T) {
	values := []int{0, 1, -1, math.MaxInt32, math.MinInt32, 1 << 40, math.MaxInt, math.MinInt}
	for _, n := range []int{1, 2, 8, 100} {
		x, w := pair(t, ones, n)
		for i, p := range strange {
			for _, q := range strange[i:] {
				if _, ok, _ := x.Get(q); ok || x.Delete(q) {
					t.Fatalf("P1202: %v passes for another key", q)
				}
			}
			x.Put(p, values[i%len(values)])
			w.put(p, values[i%len(values)])
			same(t, "P1201: strange keys", x, w)
		}
		if x.Len() != len(strange) {
			t.Errorf("P1202: Len is %d, want %d", x.Len(), len(strange))
		}
		for _, p := range strange {
			if !x.Delete(p) || !w.remove(p) {
				t.Fatalf("P1202: Delete of %v is false", p)
			}
			same(t, "P1202: strange keys Deleted", x, w)
		}
	}
}

// TestNothingIsLost puts many and takes some, and has all others as they were told last.
func TestNothingIsLost(t *testing.T) {
	x := table(t, 9, 1)
	c := chance(9)
	want := map[api.Prefix]int{}
	for i := range 20000 {
		p := key(c.next(3000))
		_, is := want[p]
		if c.next(3) == 0 {
			if x.Delete(p) != is {
				t.Fatalf("P1202: Delete of %v is %v", p, !is)
			}
			delete(want, p)
			continue
		}
		x.Put(p, i)
		want[p] = i
	}
	if x.Len() != len(want) || len(x.All()) != len(want) || !slices.IsSortedFunc(x.All(), routesByLess) {
		t.Fatalf("P1202: Len is %d, All has %d, want %d by addr.Less", x.Len(), len(x.All()), len(want))
	}
	for i := range 3000 {
		v, is := want[key(i)]
		if got, ok, _ := x.Get(key(i)); got != v || ok != is {
			t.Fatalf("P1202: Get of key %d is %d, %v, want %d, %v", i, got, ok, v, is)
		}
	}
}

// TestNone holds for the nil one what the chapter says, and for the zero value that it takes no key.
func TestNone(t *testing.T) {
	for name, x := range map[string]*cuckoo.Table{"a nil one": nil, "the zero value": {}} {
		for _, p := range strange {
			x.Put(p, 1)
			x.Put(p, 2)
			if v, ok, read := x.Get(p); v != 0 || ok || len(read) != 0 {
				t.Errorf("P1203: %s: Get of %v is %d, %v, %v", name, p, v, ok, read)
			}
			if x.Delete(p) {
				t.Errorf("P1203: %s: Delete of %v is true", name, p)
			}
		}
		if seed, n, stash := x.Size(); seed != 0 || n != 0 || stash != 0 || x.Len() != 0 || len(x.All()) != 0 {
			t.Errorf("P1203: %s: %#x, %d buckets, %d in the stash, %d keys", name, seed, n, stash, x.Len())
		}
	}
}

func TestTwoHaveNothingInCommon(t *testing.T) {
	one, wantOne := pair(t, 7, 1)
	two, wantTwo := pair(t, 7, 1)
	for i := range 30 {
		one.Put(key(i), i)
		wantOne.put(key(i), i)
		two.Put(key(i/2), -i)
		wantTwo.put(key(i/2), -i)
		two.Delete(key(i / 3))
		wantTwo.remove(key(i / 3))
		same(t, "P1203: one of two", one, wantOne)
		same(t, "P1203: the other of two", two, wantTwo)
	}
	three, wantThree := pair(t, 7, 1)
	same(t, "P1203: a third one", three, wantThree)
}

func TestAnswersAreNewMemory(t *testing.T) {
	for n := range 40 {
		x := queue(t, n)
		want := queue(t, n).All()
		got, again := x.All(), x.All()
		for i := range got {
			got[i] = route(77)
		}
		got = append(got, route(78))
		got[0] = route(79)
		for _, r := range want {
			_, _, read := x.Get(r.Prefix)
			before := slices.Clone(read)
			read[0] = -1
			read = append(read, -2)
			if _, _, after := x.Get(r.Prefix); !slices.Equal(after, before) {
				t.Fatalf("P1203: a list of Get turned by another, %v: %v, want %v", read, after, before)
			}
		}
		if !slices.Equal(again, want) || !slices.Equal(x.All(), want) {
			t.Fatalf("P1203: All turned by another: %v, %v, want %v", again, x.All(), want)
		}
		x.Put(key(1), -1)
		x.Put(key(90), 90)
		x.Delete(key(2))
		if !slices.Equal(again, want) {
			t.Fatalf("P1203: All turned by its table: %v, want %v", again, want)
		}
	}
}

func TestAskingTurnsNothing(t *testing.T) {
	x, w, _ := story(4, 1, 40, 60)
	for range 3 {
		for i := range 60 {
			x.Get(key(i))
			if _, ok, _ := w.get(key(i)); !ok && x.Delete(key(i)) {
				t.Fatalf("P1202: Delete of key %d, which is not there, is true", i)
			}
		}
		same(t, "P1203: asked again", x, w)
	}
}

func TestAnswersHangOnWhatWasToldAlone(t *testing.T) {
	_, w, right := story(5, 2, 60, 500)
	again := make([]*cuckoo.Table, 8)
	var wait sync.WaitGroup
	for i := range again {
		wait.Go(func() { again[i], _, _ = story(5, 2, 60, 500) })
	}
	wait.Wait()
	for _, x := range again {
		if !right || !alike(x, w) {
			t.Fatal("P1203: the same was told, another was answered")
		}
	}
}
