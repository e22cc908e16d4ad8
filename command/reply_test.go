package command_test

import (
	"bytes"
	"math"
	"slices"
	"testing"

	"flocculus/api"
	"flocculus/command"
	"flocculus/edges"
)

func replyPairs() []pair[api.Reply] {
	return []pair[api.Reply]{
		{"00 00000001 00000000 00000000 00 0000", api.Reply{}},
		{"00 00000000 00000000 00000000 00 0000", api.Reply{Hop: -1}},
		{"02 00000000 00000000 00000000 00 0000", api.Reply{Err: api.ErrBytes, Hop: -1}},
		{"08 01020304 05060708 090a0b0c 00 0000", api.Reply{Err: api.ErrIdle, Hop: 0x01020303, N: 0x05060708, At: 0x090a0b0c}},
		{"00 80000000 7fffffff 7fffffff 00 0000", api.Reply{Hop: top, N: top, At: top}},
		{"00 7fffffff 00000000 00000000 00 0000", api.Reply{Hop: top - 1}},
		{"00 00000008 00000000 00000000 04 20 00 ff 0e 0000", api.Reply{Hop: 7, Probes: []int{32, 0, 255, 14}}},
		{"00 00000000 00000000 00000000 00 0001" + docText + "01020304", api.Reply{Hop: -1, Routes: []api.Route{{Prefix: doc, Hop: 0x01020304}}}},
		{"07 00000000 00000003 00000000 01 05 0002" + docText + "7fffffff 0000000000000000 0000000000000000 00 00000000", api.Reply{Err: api.ErrBusy, Hop: -1, N: 3, Probes: []int{5}, Routes: []api.Route{{Prefix: doc, Hop: top}, {}}}},
	}
}

func TestReplies(t *testing.T) {
	replies.each(t)
}

// TestEachBitOfAReply has each number with one bit on, which is one bit of the bytes.
func TestEachBitOfAReply(t *testing.T) {
	// one has bit i, from the highest of the byte at from on, on.
	one := func(b []byte, from, i int) []byte {
		b[from+i/8] |= 1 << (7 - i%8)
		return b
	}
	for i := range 32 {
		n := 1 << (31 - i)
		replies.goes(t, "a hop", api.Reply{Hop: n - 1}, one(make([]byte, 16), 1, i))
		if i == 0 {
			continue
		}
		replies.goes(t, "how many are left", api.Reply{Hop: -1, N: n}, one(make([]byte, 16), 5, i))
		replies.goes(t, "which one", api.Reply{Hop: -1, At: n}, one(make([]byte, 16), 9, i))
		replies.goes(t, "a route's hop", api.Reply{Hop: -1, Routes: []api.Route{{Hop: n}}}, one(routeBytes(1), 33, i))
	}
	for i := range 128 {
		replies.goes(t, "a route's address", api.Reply{Hop: -1, Routes: []api.Route{{Prefix: api.Prefix{Addr: edges.Flip(api.Addr{}, i)}}}}, one(routeBytes(1), 16, i))
	}
	replies.refused(t, "how many are left", one(make([]byte, 16), 5, 0))
	replies.refused(t, "which one", one(make([]byte, 16), 9, 0))
	replies.refused(t, "a route's hop", one(routeBytes(1), 33, 0))
	for i := 1; i < 32; i++ {
		replies.refused(t, "a hop", one(one(make([]byte, 16), 1, 0), 1, i))
	}
}

// routeBytes are those of a reply of n routes, all of whose numbers are 0, and that leads nowhere.
func routeBytes(n int) []byte {
	b := make([]byte, 16+21*n)
	b[14], b[15] = byte(n>>8), byte(n)
	return b
}

func TestEachNumberOfOneByte(t *testing.T) {
	for n := range 256 {
		b := make([]byte, 16)
		b[0] = byte(n)
		if n <= 8 {
			replies.goes(t, "an error", api.Reply{Err: api.Errno(n), Hop: -1}, b)
		} else {
			replies.refused(t, "an error", b)
		}
		b = slices.Insert(make([]byte, 16), 14, byte(n))
		b[13] = 1
		replies.goes(t, "a probe", api.Reply{Hop: -1, Probes: []int{n}}, b)
		b = routeBytes(1)
		b[32] = byte(n)
		replies.goes(t, "a length", api.Reply{Hop: -1, Routes: []api.Route{{Prefix: api.Prefix{Len: n}}}}, b)
	}
}

func TestListsOfEachSize(t *testing.T) {
	for n := range 260 {
		r := api.Reply{Hop: -1}
		for i := range n {
			r.Probes = append(r.Probes, i%256)
		}
		if n > 255 {
			replies.none(t, "too many probes", r)
			continue
		}
		b := slices.Insert(make([]byte, 16), 14, make([]byte, n)...)
		b[13] = byte(n)
		for i := range n {
			b[14+i] = byte(i)
		}
		replies.goes(t, "probes", r, b)
	}
	for _, n := range []int{0, 1, 2, 254, 255, 256, 257, 300, 511, 512, 65534, 65535} {
		r := api.Reply{Hop: -1, Routes: make([]api.Route, n)}
		b := routeBytes(n)
		for i := range n {
			r.Routes[i].Hop = i
			big.PutUint32(b[16+21*i+17:], uint32(i))
		}
		replies.goes(t, "routes", r, b)
		b[14]++
		replies.refused(t, "another number of routes than it says", b)
	}
	for _, n := range []int{65536, 65537, 131072, 1<<16 + 1<<15} {
		replies.none(t, "too many routes", api.Reply{Hop: -1, Routes: make([]api.Route, n)})
	}
}

func TestNumbersThatAReplyDoesNotHave(t *testing.T) {
	for _, n := range wild() {
		replies.none(t, "how many are left", api.Reply{N: n})
		replies.none(t, "which one", api.Reply{At: n})
		if n != -1 {
			replies.none(t, "a hop", api.Reply{Hop: n})
		}
	}
	for _, n := range append(wild(), 9, 10, 255, 256, 257, 264) {
		replies.none(t, "an error", api.Reply{Err: api.Errno(n)})
	}
	for size := 1; size <= 5; size++ {
		for i := range size {
			for _, n := range append(wild(), 256, 257, 65536, top) {
				r := api.Reply{Probes: make([]int, size)}
				r.Probes[i] = n
				replies.none(t, "a probe", r)
				r = api.Reply{Routes: make([]api.Route, size)}
				r.Routes[i].Prefix.Len = n
				replies.none(t, "a length", r)
			}
			for _, n := range wild() {
				r := api.Reply{Routes: make([]api.Route, size)}
				r.Routes[i].Hop = n
				replies.none(t, "a route's hop", r)
			}
		}
	}
	for _, n := range []int{-2, math.MinInt, top + 1, 1<<32 - 1, 1<<32 - 2, math.MaxInt} {
		replies.none(t, "a hop", api.Reply{Hop: n})
	}
}

func TestRepliesAgainstAPlainForm(t *testing.T) {
	r := chance{25}
	replies.any(t, r.reply)
}

func FuzzReadReply(f *testing.F) {
	replies.fuzz(f)
}

// TestWhatAReplyIsHandedStays has lists and bytes with room to spare, and turns them afterwards, which must turn no answer.
func TestWhatAReplyIsHandedStays(t *testing.T) {
	one := api.Route{Prefix: doc, Hop: 7}
	probes, routes := slices.Repeat([]int{9}, 5), slices.Repeat([]api.Route{one}, 5)
	b := command.Reply(api.Reply{Probes: probes[:2], Routes: routes[:2]})
	want := slices.Clone(b)
	if !slices.Equal(probes, slices.Repeat([]int{9}, 5)) || !slices.Equal(routes, slices.Repeat([]api.Route{one}, 5)) {
		t.Fatalf("P2402: Reply turned what it was handed to %v, %v", probes, routes)
	}
	edges.Fill(probes, 77)
	edges.Fill(routes, api.Route{Hop: 77})
	if !bytes.Equal(b, want) {
		t.Fatal("P2402: Reply keeps what it was handed")
	}

	room := append(slices.Clone(b), b...)
	r, e := command.ReadReply(room[:len(b)])
	if e != api.OK || !bytes.Equal(room, slices.Concat(want, want)) {
		t.Fatalf("P2402: ReadReply is %d, and turned what it was handed to %x", e, room)
	}
	edges.Fill(room, 255)
	if !sameReply(r, api.Reply{Probes: []int{9, 9}, Routes: []api.Route{one, one}}) {
		t.Fatal("P2402: ReadReply keeps what it was handed")
	}
}

// TestRepliesAreNewMemory turns all of an answer, its spare room too, and asks again.
func TestRepliesAreNewMemory(t *testing.T) {
	for _, x := range replies.pairs {
		edges.Fill(command.Reply(x.x), 255)
		r, _ := command.ReadReply(read(x.text))
		edges.Fill(r.Probes, 77)
		edges.Fill(r.Routes, api.Route{Hop: 77})
		replies.goes(t, "P2402: asked again", x.x, read(x.text))
	}
}
