package command_test

import (
	"bytes"
	"encoding/binary"
	"encoding/hex"
	"math"
	"slices"
	"strings"
	"testing"

	"flocculus/api"
	"flocculus/command"
	"flocculus/edges"
)

// top is what hops, and all that four bytes tell of, are at most.
const top = 1<<31 - 1

var big = binary.BigEndian

// read makes bytes of digits of base 16, which may have spaces between.
func read(text string) []byte {
	b, err := hex.DecodeString(strings.ReplaceAll(text, " ", ""))
	if err != nil {
		panic(err)
	}
	return b
}

func sameCommand(a, b api.Command) bool {
	return a.Kind == b.Kind && a.Hop == b.Hop && a.N == b.N && a.Prefix == b.Prefix && a.Addr == b.Addr && a.Seed == b.Seed && slices.EqualFunc(a.Batch, b.Batch, sameCommand)
}

func sameReply(a, b api.Reply) bool {
	return a.Err == b.Err && a.Hop == b.Hop && a.N == b.N && a.At == b.At && slices.Equal(a.Probes, b.Probes) && slices.Equal(a.Routes, b.Routes)
}

// codec is both calls for commands, or for replies, with their plain forms.
type codec[T any] struct {
	write, plainWrite func(T) []byte
	read, plainRead   func([]byte) (T, api.Errno)
	same              func(a, b T) bool
	// bare leaves what is written.
	bare  func(T) T
	pairs []pair[T]
}

// pair is one x, and its bytes in base 16.
type pair[T any] struct {
	text string
	x    T
}

var (
	commands = codec[api.Command]{command.Bytes, plainBytes, command.Read, plainRead, sameCommand, bare, commandPairs()}
	replies  = codec[api.Reply]{command.Reply, plainReply, command.ReadReply, plainReadReply, sameReply, func(r api.Reply) api.Reply { return r }, replyPairs()}
)

// goes fails the test where x is not written as want, or want is not read back as it.
func (k codec[T]) goes(t *testing.T, what string, x T, want []byte) {
	t.Helper()
	if got := k.write(x); !bytes.Equal(got, want) {
		t.Fatalf("P2401: %s: %+v is written as %x, want %x", what, x, got, want)
	}
	if got, e := k.read(want); e != api.OK || !k.same(got, k.bare(x)) {
		t.Fatalf("P2401: %s: %x is read as %+v, %d, want %+v", what, want, got, e, k.bare(x))
	}
}

// none fails the test where x is written.
func (k codec[T]) none(t *testing.T, what string, x T) {
	t.Helper()
	if got := k.write(x); len(got) != 0 {
		t.Fatalf("P2401: %s: %+v is written as %x", what, x, got)
	}
}

// refused fails the test where b is read.
func (k codec[T]) refused(t *testing.T, what string, b []byte) {
	t.Helper()
	var zero T
	if got, e := k.read(b); e != api.ErrBytes || !k.same(got, zero) {
		t.Fatalf("P2401: %s: %x is read as %+v, %d, want ErrBytes", what, b, got, e)
	}
}

// held holds each of l to the plain form, and tells how often each error came.
func (k codec[T]) held(t *testing.T, l [][]byte) map[api.Errno]int {
	t.Helper()
	told := map[api.Errno]int{}
	for _, b := range l {
		got, e := k.read(b)
		if want, no := k.plainRead(b); !k.same(got, want) || e != no {
			t.Fatalf("P2401: %x is read as %+v, %d, want %+v, %d", b, got, e, want, no)
		}
		if e == api.OK && !bytes.Equal(k.write(got), b) {
			t.Fatalf("P2401: %x is read, and then written as %x", b, k.write(got))
		}
		told[e]++
	}
	return told
}

// any holds many that next makes to the plain form.
func (k codec[T]) any(t *testing.T, next func() T) {
	t.Helper()
	written := 0
	for range 20000 {
		x := next()
		want := k.plainWrite(x)
		if len(want) == 0 {
			k.none(t, "any one", x)
			continue
		}
		k.goes(t, "any one", x, want)
		written++
	}
	if written < 5000 || written > 19000 {
		t.Errorf("%d of 20000 are written: the test has lost its use", written)
	}
}

// each reads the pairs both ways; then the right bytes without the last ones, with others behind, and with one turned.
func (k codec[T]) each(t *testing.T) {
	t.Helper()
	for _, one := range k.pairs {
		b := read(one.text)
		k.goes(t, one.text, one.x, b)
		for n := range b {
			k.refused(t, "too few bytes", b[:n])
			k.refused(t, "too few bytes, and no room to spare", slices.Clone(b[:n]))
		}
		for _, other := range k.pairs {
			k.refused(t, "another behind", slices.Concat(b, read(other.text)))
		}
		k.refused(t, "many behind", slices.Concat(b, make([]byte, 1<<16)))
		if told := k.held(t, near(b)); told[api.OK] == 0 || told[api.ErrBytes] == 0 {
			t.Errorf("%s: what is nearby is told as %v: the test has lost its use", one.text, told)
		}
	}
	k.refused(t, "nothing", nil)
	k.refused(t, "nothing", []byte{})
	k.refused(t, "nothing with room to spare", read(k.pairs[0].text)[:0])
}

// fuzz holds any bytes to the plain form.
func (k codec[T]) fuzz(f *testing.F) {
	for _, one := range k.pairs {
		f.Add(read(one.text))
	}
	f.Fuzz(func(t *testing.T, b []byte) { k.held(t, [][]byte{b}) })
}

// dressed is c, with what full has in the fields that c's kind does not have.
func dressed(c, full api.Command) api.Command {
	x := full
	x.Kind = c.Kind
	switch c.Kind {
	case api.CAdd:
		x.Prefix, x.Hop = c.Prefix, c.Hop
	case api.CDelete:
		x.Prefix = c.Prefix
	case api.CLook:
		x.Addr = c.Addr
	case api.CStart:
		x.N = c.N
	case api.CSeed:
		x.Seed, x.N = c.Seed, c.N
	case api.CBatch:
		x.Batch = nil
		for _, one := range c.Batch {
			x.Batch = append(x.Batch, dressed(one, full))
		}
	}
	return x
}

// bare leaves the fields that a command's kind has.
func bare(c api.Command) api.Command {
	return dressed(c, api.Command{})
}

// within tells whether each number is from 0 to most.
func within(most int, l ...int) bool {
	return !slices.ContainsFunc(l, func(n int) bool { return n < 0 || n > most })
}

func plainPrefix(out []byte, p api.Prefix) []byte {
	return append(big.AppendUint64(big.AppendUint64(out, p.Addr.Hi), p.Addr.Lo), byte(p.Len))
}

// plainBytes is the form against which Bytes is held.
func plainBytes(c api.Command) []byte {
	out := []byte{byte(c.Kind)}
	hop, n := uint32(c.Hop), uint32(c.N)
	switch {
	case c.Kind == 1 && within(255, c.Prefix.Len) && within(top, c.Hop):
		return big.AppendUint32(plainPrefix(out, c.Prefix), hop)
	case c.Kind == 2 && within(255, c.Prefix.Len):
		return plainPrefix(out, c.Prefix)
	case c.Kind == 3:
		return big.AppendUint64(big.AppendUint64(out, c.Addr.Hi), c.Addr.Lo)
	case c.Kind == 4 && within(top, c.N):
		return big.AppendUint32(out, n)
	case c.Kind == 5, c.Kind == 8:
		return out
	case c.Kind == 6 && within(top, c.N):
		return big.AppendUint32(big.AppendUint64(out, c.Seed), n)
	case c.Kind == 7 && len(c.Batch) <= 20:
		out = append(out, byte(len(c.Batch)))
		for _, one := range c.Batch {
			b := plainBytes(one)
			if one.Kind != 1 && one.Kind != 2 || b == nil {
				return nil
			}
			out = append(out, b...)
		}
		return out
	}
	return nil
}

// sizes are how many bytes commands have that are no batch.
var sizes = map[byte]int{1: 22, 2: 18, 3: 17, 4: 5, 5: 1, 6: 13, 8: 1}

func prefixOf(b []byte) api.Prefix {
	return api.Prefix{Addr: api.Addr{Hi: big.Uint64(b), Lo: big.Uint64(b[8:])}, Len: int(b[16])}
}

// cut takes the first command of b, if it is no batch, by its size alone; nothing where there is none.
func cut(b []byte) (api.Command, []byte) {
	if len(b) == 0 || sizes[b[0]] == 0 || len(b) < sizes[b[0]] {
		return api.Command{}, nil
	}
	c := api.Command{Kind: int(b[0])}
	switch c.Kind {
	case 1:
		c.Prefix, c.Hop = prefixOf(b[1:]), int(big.Uint32(b[18:]))
	case 2:
		c.Prefix = prefixOf(b[1:])
	case 3:
		c.Addr = api.Addr{Hi: big.Uint64(b[1:]), Lo: big.Uint64(b[9:])}
	case 4:
		c.N = int(big.Uint32(b[1:]))
	case 6:
		c.Seed, c.N = big.Uint64(b[1:]), int(big.Uint32(b[9:]))
	}
	return c, b[sizes[b[0]]:]
}

// plainRead takes b apart without a look at its numbers, and then asks whether what it comes to is written so: the form against which Read is held.
func plainRead(b []byte) (api.Command, api.Errno) {
	c, _ := cut(b)
	if len(b) > 1 && b[0] == 7 {
		c.Kind = 7
		for rest := b[2:]; len(rest) > 0; {
			var one api.Command
			one, rest = cut(rest)
			c.Batch = append(c.Batch, one)
		}
	}
	if want := plainBytes(c); want == nil || !bytes.Equal(want, b) {
		return api.Command{}, api.ErrBytes
	}
	return c, api.OK
}

// plainReply is the form against which Reply is held.
func plainReply(r api.Reply) []byte {
	if !within(8, int(r.Err)) || r.Hop < -1 || r.Hop > top || !within(top, r.N, r.At) || len(r.Probes) > 255 || !within(255, r.Probes...) || len(r.Routes) > 65535 {
		return nil
	}
	out := []byte{byte(r.Err)}
	for _, n := range []uint32{uint32(r.Hop + 1), uint32(r.N), uint32(r.At)} {
		out = big.AppendUint32(out, n)
	}
	out = append(out, byte(len(r.Probes)))
	for _, n := range r.Probes {
		out = append(out, byte(n))
	}
	out = big.AppendUint16(out, uint16(len(r.Routes)))
	for _, one := range r.Routes {
		if !within(255, one.Prefix.Len) || !within(top, one.Hop) {
			return nil
		}
		out = big.AppendUint32(plainPrefix(out, one.Prefix), uint32(one.Hop))
	}
	return out
}

// plainReadReply takes b apart without a look at its numbers, and then asks whether what it comes to is written so: the form against which ReadReply is held.
func plainReadReply(b []byte) (api.Reply, api.Errno) {
	if len(b) < 16 || len(b) < 16+int(b[13]) {
		return api.Reply{}, api.ErrBytes
	}
	r := api.Reply{Err: api.Errno(b[0]), Hop: int(big.Uint32(b[1:])) - 1, N: int(big.Uint32(b[5:])), At: int(big.Uint32(b[9:]))}
	for _, n := range b[14 : 14+int(b[13])] {
		r.Probes = append(r.Probes, int(n))
	}
	for rest := b[16+int(b[13]):]; len(rest) >= 21; rest = rest[21:] {
		r.Routes = append(r.Routes, api.Route{Prefix: prefixOf(rest), Hop: int(big.Uint32(rest[17:]))})
	}
	if want := plainReply(r); want == nil || !bytes.Equal(want, b) {
		return api.Reply{}, api.ErrBytes
	}
	return r, api.OK
}

// near are bytes that are one byte away from b: without it, with another in its place, with one more.
func near(b []byte) [][]byte {
	var out [][]byte
	for i := range len(b) + 1 {
		for n := range 256 {
			out = append(out, slices.Insert(slices.Clone(b), i, byte(n)))
			if i < len(b) {
				other := slices.Clone(b)
				other[i] = byte(n)
				out = append(out, other)
			}
		}
		if i < len(b) {
			out = append(out, slices.Delete(slices.Clone(b), i, i+1))
		}
	}
	return out
}

// chance makes commands and replies, most of whose numbers can be.
type chance struct{ edges.Chance }

// pick is one of l, or now and then one of wild.
func pick[T any](r *chance, l, wild []T) T {
	if r.Next(40) == 0 {
		l = wild
	}
	return l[r.Next(len(l))]
}

func (r *chance) word() uint64 {
	return pick(r, []uint64{0, 1, 255, 1 << 63, math.MaxUint64, 0x0102030405060708, uint64(r.Chance)}, []uint64{1 << 32})
}

func (r *chance) address() api.Addr {
	return api.Addr{Hi: r.word(), Lo: r.word()}
}

func (r *chance) prefix() api.Prefix {
	return api.Prefix{Addr: r.address(), Len: pick(r, []int{0, 1, 64, 128, 129, 254, 255, r.Next(256)}, []int{-1, 256, 257, math.MinInt, math.MaxInt})}
}

func (r *chance) four() int {
	return pick(r, []int{0, 1, 127, 128, 255, 256, 1 << 15, 1 << 16, 1 << 23, 1 << 24, top - 1, top, r.Next(top)}, []int{-1, -2, top + 1, 1 << 32, 1<<32 + 1, math.MinInt, math.MaxInt})
}

// command has all fields, whatever its kind has; a batch is of at most most commands.
func (r *chance) command(kinds []int, most int) api.Command {
	c := api.Command{
		Kind:   pick(r, kinds, []int{0, 9, -1, 257, 263, math.MinInt, math.MaxInt, 3, 5, 7}),
		Hop:    r.four(),
		N:      r.four(),
		Prefix: r.prefix(),
		Addr:   r.address(),
		Seed:   r.word(),
	}
	if most > 0 {
		for range r.Next(most) {
			c.Batch = append(c.Batch, r.command([]int{1, 2}, 0))
		}
	}
	return c
}

func (r *chance) reply() api.Reply {
	x := api.Reply{
		Err: pick(r, []api.Errno{0, 1, 2, 3, 4, 5, 6, 7, 8}, []api.Errno{-1, 9, 256, math.MaxInt}),
		Hop: pick(r, []int{-1, 0, r.four()}, []int{-2, top, top + 1}),
		N:   r.four(),
		At:  r.four(),
	}
	for range r.Next(8) {
		x.Probes = append(x.Probes, pick(r, []int{0, 1, 128, 255, r.Next(256)}, []int{-1, 256, 1 << 32}))
	}
	for range r.Next(5) {
		x.Routes = append(x.Routes, api.Route{Prefix: r.prefix(), Hop: r.four()})
	}
	return x
}
