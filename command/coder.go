package command

import "flocculus/api"

// coder goes through the numbers of a command or a reply in the order in which they are written: a writer writes them, a reader reads them, so that both keep to one order. A coder fails at what can't be, and nothing comes of it then.
type coder interface {
	// word is a number of 64 bits.
	word(n *uint64)
	// number is one from least to most, written in size bytes as how far it is above least.
	number(n *int, least, most, size int)
	fail()
	failed() bool
}

// writer only looks at the numbers it is shown.
type writer struct {
	fate
	out []byte
}

// reader turns the numbers it is shown to what the bytes say.
type reader struct {
	fate
	rest []byte
}

// fate is whether a coder has failed.
type fate struct{ bad bool }

func (f *fate) fail() { f.bad = true }

func (f *fate) failed() bool { return f.bad }

const wordSize = 8

func (w *writer) word(n *uint64) {
	w.put(*n, wordSize)
}

func (w *writer) number(n *int, least, most, size int) {
	if *n < least || *n > most {
		w.fail()
		return
	}
	w.put(above(*n, least), size)
}

// put writes the lowest size bytes of n, the highest of them first.
func (w *writer) put(n uint64, size int) {
	for i := size - 1; i >= 0; i-- {
		w.out = append(w.out, byte(n>>(8*i)))
	}
}

func (r *reader) word(n *uint64) {
	*n = r.take(wordSize)
}

func (r *reader) number(n *int, least, most, size int) {
	far := r.take(size)
	if far > above(most, least) {
		r.fail()
		return
	}
	*n = int(uint64(least) + far)
}

// take reads size bytes; it fails, and is 0, where fewer are left.
func (r *reader) take(size int) uint64 {
	if len(r.rest) < size {
		r.fail()
		return 0
	}
	n := uint64(0)
	for _, b := range r.rest[:size] {
		n = n<<8 | uint64(b)
	}
	r.rest = r.rest[size:]
	return n
}

// above is how far n is above least; a least below 0 wraps round on the way, and back again.
func above(n, least int) uint64 {
	return uint64(n) - uint64(least)
}

// list goes through how many l has, at most most, in size bytes, then through each of them.
func list[T any](c coder, l *[]T, most, size int, each func(coder, *T)) {
	n := len(*l)
	c.number(&n, 0, most, size)
	for i := 0; i < n && !c.failed(); i++ {
		// Only a reader comes by more than there are. It makes room one by one, as its bytes may end ahead of so many.
		if i == len(*l) {
			var one T
			*l = append(*l, one)
		}
		each(c, &(*l)[i])
	}
}

// write is the bytes of x, whose numbers parts goes through; nothing where one of them can't be.
func write[T any](x T, parts func(coder, *T)) []byte {
	var w writer
	parts(&w, &x)
	if w.failed() {
		return nil
	}
	return w.out
}

// read is what write makes b of; api.ErrBytes where that is nothing.
func read[T any](b []byte, parts func(coder, *T)) (T, api.Errno) {
	r := reader{rest: b}
	var x, none T
	parts(&r, &x)
	if r.failed() || len(r.rest) > 0 {
		return none, api.ErrBytes
	}
	return x, api.OK
}
