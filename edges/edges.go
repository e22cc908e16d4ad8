// Package edges has what the tests of several packages ask about: addresses, lengths, prefixes and hops at the edges, short ways to write them, configs, and all orders of a list.
package edges

import (
	"math"
	"slices"

	"flocculus/addr"
	"flocculus/api"
)

const ones = math.MaxUint64

// Samples are addresses whose bits turn at both ends, at the edge of the words, often and never.
func Samples() []api.Addr {
	return []api.Addr{
		{},
		{Hi: ones, Lo: ones},
		{Hi: 1, Lo: 1 << 63},
		{Hi: 1 << 63, Lo: 1},
		{Hi: 0xAAAAAAAAAAAAAAAA, Lo: 0x5555555555555555},
		{Hi: 0x20010DB885A30000, Lo: 0x00008A2E03707334},
	}
}

// Lengths are the ones at the edges of an address and of its words, and some between.
func Lengths() []int {
	return []int{0, 1, 2, 7, 8, 31, 62, 63, 64, 65, 66, 100, 119, 120, 126, 127, 128}
}

// Wild are numbers that no length is.
func Wild() []int {
	return []int{math.MinInt, math.MinInt + 1, math.MinInt32, -256, -129, -2, -1, 129, 130, 136, 256, math.MaxInt32, math.MaxInt - 1, math.MaxInt}
}

// Wrong are prefixes that are none: a bit behind the length is on, or the length is none.
func Wrong() []api.Prefix {
	return []api.Prefix{
		{Addr: api.Addr{Hi: 1 << 63}},
		{Addr: api.Addr{Lo: 1}},
		{Addr: api.Addr{Lo: 1}, Len: 127},
		{Addr: api.Addr{Hi: 1}, Len: 63},
		{Addr: api.Addr{Lo: 1 << 63}, Len: 64},
		{Addr: api.Addr{Hi: 10<<56 | 1<<55}, Len: 8},
		{Addr: api.Addr{Hi: ones, Lo: ones}, Len: 120},
		{Len: -1},
		{Len: math.MinInt},
		{Len: 129},
		{Len: 136},
		{Len: math.MaxInt},
		{Addr: api.Addr{Hi: ones, Lo: ones}, Len: 129},
		{Addr: api.Addr{Hi: ones, Lo: ones}, Len: -1},
	}
}

// Hops are numbers that a route can lead to: any.
func Hops() []int {
	return []int{0, 1, -1, 7, 300, math.MaxInt, math.MinInt}
}

// Flip turns bit i of a.
func Flip(a api.Addr, i int) api.Addr {
	if i < 64 {
		a.Hi ^= 1 << (63 - i)
	} else {
		a.Lo ^= 1 << (127 - i)
	}
	return a
}

// First is the prefix of the first n bits of a.
func First(a api.Addr, n int) api.Prefix {
	return api.Prefix{Addr: addr.Cut(a, n), Len: n}
}

// Read is the prefix whose bits are the noughts and ones of text.
func Read(text string) api.Prefix {
	var a api.Addr
	for i, c := range text {
		if c == '1' {
			a = Flip(a, i)
		}
	}
	return api.Prefix{Addr: a, Len: len(text)}
}

// Route leads the prefix of text to hop.
func Route(text string, hop int) api.Route {
	return api.Route{Prefix: Read(text), Hop: hop}
}

// Chain has the first n bits of a, for each n, lead to n + 1000.
func Chain(a api.Addr) []api.Route {
	var out []api.Route
	for n := range 129 {
		out = append(out, api.Route{Prefix: First(a, n), Hop: n + 1000})
	}
	return out
}

// Each calls f with l in every order.
func Each[T any](l []T, f func([]T)) {
	var turn func(i int)
	turn = func(i int) {
		if i == len(l) {
			f(slices.Clone(l))
			return
		}
		for j := i; j < len(l); j++ {
			l[i], l[j] = l[j], l[i]
			turn(i + 1)
			l[i], l[j] = l[j], l[i]
		}
	}
	l = slices.Clone(l)
	turn(0)
}

// Fill turns all of a list to v, its spare room too.
func Fill[T any](l []T, v T) {
	l = l[:cap(l)]
	for i := range l {
		l[i] = v
	}
}

// Chance makes numbers that follow from itself.
type Chance uint64

// Next is a number from 0 on below n.
func (c *Chance) Next(n int) int {
	*c = *c*6364136223846793005 + 1442695040888963407
	return int(uint64(*c) >> 33 % uint64(n))
}

// Near has a prefix that differs from a in some of the bits from at on, of at to at + 13 bits.
func (c *Chance) Near(a api.Addr, at int) api.Prefix {
	for range c.Next(4) {
		a = Flip(a, min(at+c.Next(12), 127))
	}
	return First(a, min(at+c.Next(14), 128))
}

// Config has a config that an engine can be of, of any width, and levels that fit it.
func (c *Chance) Config() (api.Config, []int) {
	w := 1 + c.Next(128)
	if c.Next(2) == 0 {
		w = 1 + c.Next(20)
	}
	x := api.Config{Width: w, Direct: c.Next(min(w, 8) + 1), Stride: 1 + c.Next(6), Hashes: 1 + c.Next(4), Least: 1 + c.Next(40), Buckets: 1 + c.Next(4), Routes: c.Next(301), Hops: c.Next(61)}
	var l []int
	for n := x.Direct; n < w; {
		n = min(w, n+1+c.Next(x.Stride))
		l = append(l, n)
	}
	need := max(len(l), (w-x.Direct+x.Stride-1)/x.Stride)
	x.Levels = need + c.Next(129-need)
	x.Bits = x.Least*max(1, x.Levels) + c.Next(2000)
	return x, l
}
