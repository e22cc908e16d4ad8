// Package addr has the bit operations on addresses (layer 1).
package addr

import (
	"math"
	"math/bits"

	"flocculus/api"
)

// An address has size bits, half of them in each of its two words.
const (
	half = 64
	size = 2 * half
)

// Bit is bit i, 0 being the highest of Hi and 127 the lowest of Lo; 0 where there is no such bit.
func Bit(a api.Addr, i int) int {
	switch {
	case i < 0 || i >= size:
		return 0
	case i < half:
		return int(a.Hi >> (half - 1 - i) & 1)
	}
	return int(a.Lo >> (size - 1 - i) & 1)
}

// Cut leaves the first n bits, and turns the others off.
func Cut(a api.Addr, n int) api.Addr {
	n = max(0, min(n, size))
	return api.Addr{
		Hi: a.Hi & first(min(n, half)),
		Lo: a.Lo & first(max(0, n-half)),
	}
}

// first is a word whose first n bits are on, n from 0 to half.
func first(n int) uint64 {
	return ^(uint64(math.MaxUint64) >> n)
}

// Right tells whether p is a prefix: a length that an address can have, and no bit behind it on.
func Right(p api.Prefix) bool {
	return p.Len >= 0 && p.Len <= size && Cut(p.Addr, p.Len) == p.Addr
}

// Has tells whether a begins with p; nothing begins with a p that is not Right.
func Has(p api.Prefix, a api.Addr) bool {
	return Right(p) && Cut(a, p.Len) == p.Addr
}

// Common is how many bits a and b have in common from the first on.
func Common(a, b api.Addr) int {
	if a.Hi != b.Hi {
		return bits.LeadingZeros64(a.Hi ^ b.Hi)
	}
	return half + bits.LeadingZeros64(a.Lo^b.Lo)
}

// Less orders by the address as one number, then by the length, be they Right or not.
func Less(a, b api.Prefix) bool {
	switch {
	case a.Addr.Hi != b.Addr.Hi:
		return a.Addr.Hi < b.Addr.Hi
	case a.Addr.Lo != b.Addr.Lo:
		return a.Addr.Lo < b.Addr.Lo
	}
	return a.Len < b.Len
}
