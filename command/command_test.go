package command_test

import (
	"bytes"
	"fmt"
	"math"
	"slices"
	"sync"
	"testing"

	"flocculus/api"
	"flocculus/command"
	"flocculus/edges"
)

// doc is a prefix no two bytes of which are alike. Bits behind its length are on: neither command nor reply asks whether a prefix is one.
var doc = api.Prefix{Addr: api.Addr{Hi: 0x0123456789abcdef, Lo: 0xf0e1d2c3b4a59687}, Len: 200}

const docText = "0123456789abcdef f0e1d2c3b4a59687 c8"

func commandPairs() []pair[api.Command] {
	return []pair[api.Command]{
		{"01" + docText + "01020304", api.Command{Kind: api.CAdd, Prefix: doc, Hop: 0x01020304}},
		{"01 0000000000000000 0000000000000000 00 00000000", api.Command{Kind: api.CAdd}},
		{"01 ffffffffffffffff ffffffffffffffff ff 7fffffff", api.Command{Kind: api.CAdd, Prefix: api.Prefix{Addr: api.Addr{Hi: math.MaxUint64, Lo: math.MaxUint64}, Len: 255}, Hop: top}},
		{"01 0a00000000000000 0000000000000000 08 00000007", api.Command{Kind: api.CAdd, Prefix: api.Prefix{Addr: api.Addr{Hi: 10 << 56}, Len: 8}, Hop: 7}},
		{"02" + docText, api.Command{Kind: api.CDelete, Prefix: doc}},
		{"02 0000000000000000 0000000000000001 80", api.Command{Kind: api.CDelete, Prefix: api.Prefix{Addr: api.Addr{Lo: 1}, Len: 128}}},
		{"03 0123456789abcdef f0e1d2c3b4a59687", api.Command{Kind: api.CLook, Addr: doc.Addr}},
		{"04 01020304", api.Command{Kind: api.CStart, N: 0x01020304}},
		{"04 00000000", api.Command{Kind: api.CStart}},
		{"04 7fffffff", api.Command{Kind: api.CStart, N: top}},
		{"05", api.Command{Kind: api.CStep}},
		{"06 0123456789abcdef 01020304", api.Command{Kind: api.CSeed, Seed: 0x0123456789abcdef, N: 0x01020304}},
		{"06 ffffffffffffffff 7fffffff", api.Command{Kind: api.CSeed, Seed: math.MaxUint64, N: top}},
		{"07 00", api.Command{Kind: api.CBatch}},
		{"07 01 01" + docText + "00000100", api.Command{Kind: api.CBatch, Batch: []api.Command{{Kind: api.CAdd, Prefix: doc, Hop: 256}}}},
		{"07 03 02" + docText + "01" + docText + "7fffffff 02" + docText, api.Command{Kind: api.CBatch, Batch: []api.Command{{Kind: api.CDelete, Prefix: doc}, {Kind: api.CAdd, Prefix: doc, Hop: top}, {Kind: api.CDelete, Prefix: doc}}}},
		{"08", api.Command{Kind: api.CDump}},
	}
}

func TestCommands(t *testing.T) {
	commands.each(t)
}

// TestEachBitOfACommand has each number with one bit on, which is one bit of the bytes.
func TestEachBitOfACommand(t *testing.T) {
	// one has bit i, from the highest of the byte at from on, on.
	one := func(kind byte, from, i int) []byte {
		b := make([]byte, sizes[kind])
		b[0] = kind
		b[from+i/8] = 1 << (7 - i%8)
		return b
	}
	for i := range 128 {
		a := edges.Flip(api.Addr{}, i)
		commands.goes(t, "an address", api.Command{Kind: api.CLook, Addr: a}, one(3, 1, i))
		commands.goes(t, "an address", api.Command{Kind: api.CAdd, Prefix: api.Prefix{Addr: a}}, one(1, 1, i))
		commands.goes(t, "an address", api.Command{Kind: api.CDelete, Prefix: api.Prefix{Addr: a}}, one(2, 1, i))
	}
	for i := range 64 {
		commands.goes(t, "a seed", api.Command{Kind: api.CSeed, Seed: 1 << (63 - i)}, one(6, 1, i))
	}
	for i := range 8 {
		p := api.Prefix{Len: 1 << (7 - i)}
		commands.goes(t, "a length", api.Command{Kind: api.CAdd, Prefix: p}, one(1, 17, i))
		commands.goes(t, "a length", api.Command{Kind: api.CDelete, Prefix: p}, one(2, 17, i))
	}
	for i := 1; i < 32; i++ {
		n := 1 << (31 - i)
		commands.goes(t, "a hop", api.Command{Kind: api.CAdd, Hop: n}, one(1, 18, i))
		commands.goes(t, "a slice", api.Command{Kind: api.CStart, N: n}, one(4, 1, i))
		commands.goes(t, "a slice", api.Command{Kind: api.CSeed, N: n}, one(6, 9, i))
	}
	// The highest bit of four bytes is none of a number.
	commands.refused(t, "a hop", one(1, 18, 0))
	commands.refused(t, "a slice", one(4, 1, 0))
	commands.refused(t, "a slice", one(6, 9, 0))
}

func TestEachLength(t *testing.T) {
	for n := range 256 {
		p := api.Prefix{Addr: doc.Addr, Len: n}
		commands.goes(t, "a length", api.Command{Kind: api.CAdd, Prefix: p}, slices.Concat([]byte{1}, plainPrefix(nil, p), make([]byte, 4)))
		commands.goes(t, "a length", api.Command{Kind: api.CDelete, Prefix: p}, plainPrefix([]byte{2}, p))
	}
}

func TestBatchesOfEachSize(t *testing.T) {
	for n := range 30 {
		var l []api.Command
		b := []byte{7, byte(n)}
		for i := range n {
			c := api.Command{Kind: 1 + i%2, Prefix: api.Prefix{Addr: edges.Flip(api.Addr{}, i), Len: i}}
			if c.Kind == api.CAdd {
				c.Hop = 1000 + i
			}
			l = append(l, c)
			b = append(b, command.Bytes(c)...)
		}
		c := api.Command{Kind: api.CBatch, Batch: l}
		if n <= api.MaxBatch {
			commands.goes(t, "a batch", c, b)
			continue
		}
		commands.none(t, "a batch of too many", c)
		commands.refused(t, "a batch of too many", b)
	}
}

// wild are numbers that neither a length nor one of four bytes is; some of them are one if their higher bits are left out.
func wild() []int {
	return []int{-1, -2, -255, -256, math.MinInt, math.MinInt + 1, math.MinInt32, top + 1, 1 << 32, 1<<32 + 1, -1 << 32, 1 << 40, 1 << 62, math.MaxInt - 1, math.MaxInt}
}

func TestNumbersThatACommandDoesNotHave(t *testing.T) {
	for _, n := range append(wild(), 256, 257, 300, 65535, top) {
		p := api.Prefix{Addr: doc.Addr, Len: n}
		commands.none(t, "a length", api.Command{Kind: api.CAdd, Prefix: p})
		commands.none(t, "a length", api.Command{Kind: api.CDelete, Prefix: p})
	}
	for _, n := range wild() {
		commands.none(t, "a hop", api.Command{Kind: api.CAdd, Prefix: doc, Hop: n})
		commands.none(t, "a slice", api.Command{Kind: api.CStart, N: n})
		commands.none(t, "a slice", api.Command{Kind: api.CSeed, Seed: 7, N: n})
	}
	for _, kind := range append(wild(), 0, 9, 10, 255, 256, 257, 258, 259, 260, 261, 262, 263, 264, 1<<32+5) {
		commands.none(t, "a kind", api.Command{Kind: kind, Prefix: doc, Hop: 1, N: 1})
	}
}

// TestBatchesOfOthers has, at each place of a batch, a command that is none of one, or can't be.
func TestBatchesOfOthers(t *testing.T) {
	good := api.Command{Kind: api.CAdd, Prefix: doc, Hop: 7}
	others := []api.Command{
		{},
		{Kind: api.CLook, Addr: doc.Addr},
		{Kind: api.CStart, N: 1},
		{Kind: api.CStep},
		{Kind: api.CSeed, Seed: 1, N: 1},
		{Kind: api.CBatch},
		{Kind: api.CBatch, Batch: []api.Command{good}},
		{Kind: api.CDump},
		{Kind: 9},
		{Kind: -1},
		{Kind: 257, Prefix: doc, Hop: 7},
		{Kind: 258, Prefix: doc},
		{Kind: api.CAdd, Prefix: doc, Hop: -1},
		{Kind: api.CAdd, Prefix: doc, Hop: top + 1},
		{Kind: api.CAdd, Prefix: api.Prefix{Len: 256}},
		{Kind: api.CDelete, Prefix: api.Prefix{Len: -1}},
	}
	for size := 1; size <= api.MaxBatch; size++ {
		for i := range size {
			l := slices.Repeat([]api.Command{good}, size)
			for _, other := range others {
				l[i] = other
				commands.none(t, "a batch", api.Command{Kind: api.CBatch, Batch: l})
			}
		}
	}
	b := command.Bytes(good)
	for kind := range 256 {
		for _, ahead := range [][]byte{{7, 1}, slices.Concat([]byte{7, 2}, b)} {
			// What is behind the kind is as long as one of that kind asks for.
			other := slices.Concat(ahead, []byte{byte(kind)}, make([]byte, max(0, sizes[byte(kind)]-1)))
			if _, e := command.Read(other); (e == api.OK) != (kind == api.CAdd || kind == api.CDelete) {
				t.Fatalf("P2401: Read of %x is %d", other, e)
			}
		}
	}
	commands.refused(t, "a batch in a batch", []byte{7, 1, 7, 0})
	commands.refused(t, "a batch in a batch", slices.Concat([]byte{7, 1, 7, 1}, b))
}

// TestABatchThatHasItself ends, and so does one within others many times over.
func TestABatchThatHasItself(t *testing.T) {
	l := make([]api.Command, 2)
	l[0] = api.Command{Kind: api.CAdd}
	l[1] = api.Command{Kind: api.CBatch, Batch: l}
	commands.none(t, "a batch that has itself", l[1])
	b := make([]byte, 0, 1<<20)
	for len(b) < cap(b) {
		b = append(b, 7, 20)
	}
	commands.refused(t, "a batch in a batch", b)
}

// TestWhatAKindDoesNotHave is looked at in no command, and is zero in what is read.
func TestWhatAKindDoesNotHave(t *testing.T) {
	for _, n := range append(wild(), 0, 1, 300) {
		full := api.Command{Hop: n, N: n, Prefix: api.Prefix{Addr: doc.Addr, Len: n}, Addr: doc.Addr, Seed: 7, Batch: []api.Command{{Kind: n}, {Kind: 9}}}
		for _, x := range commands.pairs {
			commands.goes(t, x.text, dressed(x.x, full), read(x.text))
		}
	}
}

func TestReadOfFewBytes(t *testing.T) {
	var l [][]byte
	for i := range 256 {
		l = append(l, []byte{byte(i)})
		for j := range 256 {
			l = append(l, []byte{byte(i), byte(j)}, []byte{byte(j), 0, byte(i)}, []byte{7, byte(i), byte(j)})
		}
	}
	commands.held(t, l)
}

func TestCommandsAgainstAPlainForm(t *testing.T) {
	r := chance{24}
	commands.any(t, func() api.Command { return r.command([]int{1, 2, 3, 4, 5, 6, 7, 7, 7, 8}, 23) })
}

func FuzzRead(f *testing.F) {
	commands.fuzz(f)
}

// TestLongOnesEnd has lists and bytes of very many.
func TestLongOnesEnd(t *testing.T) {
	const many = 1 << 20
	commands.none(t, "a long batch", api.Command{Kind: api.CBatch, Batch: make([]api.Command, many)})
	replies.none(t, "many probes", api.Reply{Probes: make([]int, many)})
	replies.none(t, "many routes", api.Reply{Routes: make([]api.Route, many)})
	for n := range 256 {
		b := bytes.Repeat([]byte{byte(n)}, many)
		commands.refused(t, "many bytes", b)
		replies.refused(t, "many bytes", b)
	}
}

// TestWhatIsHandedInStays has lists and bytes with room to spare, and turns them afterwards, which must turn no answer.
func TestWhatIsHandedInStays(t *testing.T) {
	add := api.Command{Kind: api.CAdd, Prefix: doc, Hop: 7}
	l := slices.Repeat([]api.Command{add}, 5)
	b := command.Bytes(api.Command{Kind: api.CBatch, Batch: l[:2]})
	want := slices.Clone(b)
	if !slices.EqualFunc(l, slices.Repeat([]api.Command{add}, 5), sameCommand) {
		t.Fatalf("P2402: Bytes turned what they were handed to %+v", l)
	}
	edges.Fill(l, api.Command{Kind: api.CDump})
	if !bytes.Equal(b, want) {
		t.Fatal("P2402: Bytes keep what they were handed")
	}

	room := append(slices.Clone(b), b...)
	c, e := command.Read(room[:len(b)])
	if e != api.OK || !bytes.Equal(room, slices.Concat(want, want)) {
		t.Fatalf("P2402: Read is %d, and turned what it was handed to %x", e, room)
	}
	edges.Fill(room, 255)
	if !sameCommand(c, api.Command{Kind: api.CBatch, Batch: []api.Command{add, add}}) {
		t.Fatal("P2402: Read keeps what it was handed")
	}
}

// TestAnswersAreNewMemory turns all of an answer, its spare room too, and asks again.
func TestAnswersAreNewMemory(t *testing.T) {
	for _, x := range commands.pairs {
		edges.Fill(command.Bytes(x.x), 255)
		c, _ := command.Read(read(x.text))
		edges.Fill(c.Batch, api.Command{Kind: 99})
		commands.goes(t, "P2402: asked again", x.x, read(x.text))
	}
}

// answers tells what all calls answer to commands, replies and bytes, right ones and wrong ones.
func answers() []string {
	var out []string
	tell := func(l ...any) { out = append(out, fmt.Sprint(l...)) }
	r := chance{7}
	for range 300 {
		c, x := r.command([]int{1, 2, 3, 4, 5, 6, 7, 8}, 8), r.reply()
		b, d := command.Bytes(c), command.Reply(x)
		tell(b, d)
		for _, l := range [][]byte{b, d, append(b, 0), append(d, 0), b[:len(b)/2], d[:len(d)/2]} {
			c, e := command.Read(l)
			x, f := command.ReadReply(l)
			tell(c, e, x, f)
		}
	}
	return out
}

func TestAnswersHangOnArgumentsAlone(t *testing.T) {
	first := answers()
	again := make([][]string, 8)
	var wait sync.WaitGroup
	for i := range again {
		wait.Go(func() { again[i] = answers() })
	}
	wait.Wait()
	for _, got := range again {
		if !slices.Equal(got, first) {
			t.Fatal("P2402: the same arguments, another answer")
		}
	}
}

// TestManyReadOneList has many write the same command and the same reply together; none may turn them on the way.
func TestManyReadOneList(t *testing.T) {
	c := api.Command{Kind: api.CBatch, Batch: slices.Repeat([]api.Command{{Kind: api.CAdd, Prefix: doc, Hop: 7}}, 20)}
	x := api.Reply{Hop: 1, Probes: make([]int, 255), Routes: make([]api.Route, 300)}
	var wait sync.WaitGroup
	same := make([]bool, 8)
	for i := range same {
		wait.Go(func() {
			same[i] = bytes.Equal(command.Bytes(c), plainBytes(c)) && bytes.Equal(command.Reply(x), plainReply(x))
		})
	}
	wait.Wait()
	if slices.Contains(same, false) {
		t.Fatal("P2402: many asked together, another was answered")
	}
}
