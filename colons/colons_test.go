package colons_test

import (
	"fmt"
	"math"
	"regexp"
	"slices"
	"strconv"
	"strings"
	"sync"
	"testing"

	"flocculus/api"
	"flocculus/colons"
)

const ones = math.MaxUint64

func prefix(hi, lo uint64, n int) api.Prefix {
	return api.Prefix{Addr: api.Addr{Hi: hi, Lo: lo}, Len: n}
}

// of makes a prefix of eight numbers and a length; whoever asks says whether it is a prefix.
func of(l [8]uint16, n int) api.Prefix {
	p := api.Prefix{Len: n}
	for i, x := range l {
		if i < 4 {
			p.Addr.Hi = p.Addr.Hi*65536 + uint64(x)
		} else {
			p.Addr.Lo = p.Addr.Lo*65536 + uint64(x)
		}
	}
	return p
}

// pairs are prefixes, each with what Show writes of it.
var pairs = []struct {
	text string
	p    api.Prefix
}{
	{"::/0", api.Prefix{}},
	{"::/1", prefix(0, 0, 1)},
	{"::/128", prefix(0, 0, 128)},
	{"::1/128", prefix(0, 1, 128)},
	{"1::/16", prefix(1<<48, 0, 16)},
	{"8000::/1", prefix(1<<63, 0, 1)},
	{"2001:db8::/32", prefix(0x20010db8<<32, 0, 32)},
	{"2001:db8:85a3::8a2e:370:7334/128", prefix(0x20010db885a30000, 0x00008a2e03707334, 128)},
	{"fe80::/10", prefix(0xfe80<<48, 0, 10)},
	{"::ffff:102:304/128", prefix(0, 0xffff01020304, 128)},
	{"ffff:ffff:ffff:ffff::/64", prefix(ones, 0, 64)},
	{"::ffff:ffff:ffff:ffff/128", prefix(0, ones, 128)},
	{"ffff:ffff:ffff:ffff:8000::/65", prefix(ones, 1<<63, 65)},
	{"ffff:ffff:ffff:ffff:ffff:ffff:ffff:ffff/128", prefix(ones, ones, 128)},
	{"ffff:ffff:ffff:ffff:ffff:ffff:ffff:fffe/127", prefix(ones, ones-1, 127)},
	{"1:2:3:4:5:6:7:8/128", of([8]uint16{1, 2, 3, 4, 5, 6, 7, 8}, 128)},
	{"123:4567:89ab:cdef:fedc:ba98:7654:3210/128", prefix(0x0123456789abcdef, 0xfedcba9876543210, 128)},
	{"1:10:100:1000:f:ff:fff:a/128", of([8]uint16{1, 0x10, 0x100, 0x1000, 0xf, 0xff, 0xfff, 0xa}, 128)},
	// One number 0 alone stays.
	{"0:2:3:4:5:6:7:8/128", of([8]uint16{0, 2, 3, 4, 5, 6, 7, 8}, 128)},
	{"1:2:3:0:5:6:7:8/128", of([8]uint16{1, 2, 3, 0, 5, 6, 7, 8}, 128)},
	{"1:2:3:4:5:6:7:0/112", of([8]uint16{1, 2, 3, 4, 5, 6, 7, 0}, 112)},
	{"0:2:0:4:0:6:0:8/128", of([8]uint16{0, 2, 0, 4, 0, 6, 0, 8}, 128)},
	// A row of two is the shortest that goes.
	{"::3:4:5:6:7:8/128", of([8]uint16{0, 0, 3, 4, 5, 6, 7, 8}, 128)},
	{"1:2:3::6:7:8/128", of([8]uint16{1, 2, 3, 0, 0, 6, 7, 8}, 128)},
	{"1:2:3:4:5:6::/96", of([8]uint16{1, 2, 3, 4, 5, 6, 0, 0}, 96)},
	// The longest goes, of several the first.
	{"1::4:0:0:7:8/128", of([8]uint16{1, 0, 0, 4, 0, 0, 7, 8}, 128)},
	{"::3:4:5:6:0:0/96", of([8]uint16{0, 0, 3, 4, 5, 6, 0, 0}, 96)},
	{"1:0:0:4::8/128", of([8]uint16{1, 0, 0, 4, 0, 0, 0, 8}, 128)},
	{"1::5:0:0:8/128", of([8]uint16{1, 0, 0, 0, 5, 0, 0, 8}, 128)},
	{"::4:0:0:0:8/128", of([8]uint16{0, 0, 0, 4, 0, 0, 0, 8}, 128)},
	{"::3:0:0:6:0:0/96", of([8]uint16{0, 0, 3, 0, 0, 6, 0, 0}, 96)},
}

func TestPairs(t *testing.T) {
	for _, x := range pairs {
		if got := colons.Show(x.p); got != x.text {
			t.Errorf("P301: Show(%x) = %q, want %q", x.p, got, x.text)
		}
		if got, e := colons.Read(x.text); got != x.p || e != api.OK {
			t.Errorf("P301: Read(%q) = %x, %d, want %x", x.text, got, e, x.p)
		}
	}
}

// plainShow writes the prefix of eight numbers: it tries each row, the longest ones first.
func plainShow(l [8]uint16, n int) string {
	var all []string
	for _, x := range l {
		all = append(all, fmt.Sprintf("%x", x))
	}
	for row := 8; row >= 2; row-- {
		for from := 0; from+row <= 8; from++ {
			if !slices.ContainsFunc(l[from:from+row], func(x uint16) bool { return x != 0 }) {
				return fmt.Sprintf("%s::%s/%d", strings.Join(all[:from], ":"), strings.Join(all[from+row:], ":"), n)
			}
		}
	}
	return fmt.Sprintf("%s/%d", strings.Join(all, ":"), n)
}

// TestEachSetOfZeros holds both calls to each way in which numbers can be 0 or not.
func TestEachSetOfZeros(t *testing.T) {
	for set := range 256 {
		for _, on := range []uint16{1, 0xa, 0x10, 0x100, 0x1000, 0x8000, 0xffff} {
			var l [8]uint16
			for i := range l {
				if set>>i&1 == 1 {
					l[i] = on
				}
			}
			p, text := of(l, 128), plainShow(l, 128)
			if got := colons.Show(p); got != text {
				t.Errorf("P301: Show(%x) = %q, want %q", p, got, text)
			}
			if got, e := colons.Read(text); got != p || e != api.OK {
				t.Errorf("P302: Read(%q) = %x, %d, want %x", text, got, e, p)
			}
		}
	}
}

// TestEachGap reads each text that has a gap for one number 0 or more, be there zeros beside it or not.
func TestEachGap(t *testing.T) {
	for from := range 8 {
		for to := from + 1; to <= 8; to++ {
			for _, on := range []uint16{0, 0xbeef} {
				var l [8]uint16
				var all []string
				for i := range l {
					if i < from || i >= to {
						l[i] = on
					}
					all = append(all, fmt.Sprintf("%x", l[i]))
				}
				text := strings.Join(all[:from], ":") + "::" + strings.Join(all[to:], ":") + "/128"
				if got, e := colons.Read(text); got != of(l, 128) || e != api.OK {
					t.Errorf("P301: Read(%q) = %x, %d, want %x", text, got, e, of(l, 128))
				}
			}
		}
	}
}

// TestEachNumberAtEachPlace holds both calls to each number of 16 bits, and Read to each way to write it.
func TestEachNumberAtEachPlace(t *testing.T) {
	for n := range 1 << 16 {
		place := n % 8
		l := [8]uint16{1, 2, 3, 4, 5, 6, 7, 8}
		l[place] = uint16(n)
		p := of(l, 128)
		text := plainShow(l, 128)
		if got := colons.Show(p); got != text {
			t.Fatalf("P301: Show(%x) = %q, want %q", p, got, text)
		}
		all := strings.Split("1:2:3:4:5:6:7:8", ":")
		for _, form := range []string{"%x", "%X", "%02x", "%03X", "%04x", "%04X"} {
			all[place] = fmt.Sprintf(form, n)
			s := strings.Join(all, ":") + "/128"
			if got, e := colons.Read(s); got != p || e != api.OK {
				t.Fatalf("P301: Read(%q) = %x, %d, want %x", s, got, e, p)
			}
		}
	}
}

// TestEachLengthAndBit holds both calls, for each length, to an address with one bit on: within the length it is a prefix, behind it not.
func TestEachLengthAndBit(t *testing.T) {
	for n := range 129 {
		for bit := range 128 {
			var l [8]uint16
			l[bit/16] = 0x8000 >> (bit % 16)
			p, text := of(l, n), plainShow(l, n)
			shown, want, no := text, p, api.OK
			if bit >= n {
				shown, want, no = "", api.Prefix{}, api.ErrPrefix
			}
			if got := colons.Show(p); got != shown {
				t.Errorf("P301: Show(%x) = %q, want %q", p, got, shown)
			}
			if got, e := colons.Read(text); got != want || e != no {
				t.Errorf("P301: Read(%q) = %x, %d, want %x, %d", text, got, e, want, no)
			}
		}
	}
}

func TestReadOfOtherWays(t *testing.T) {
	one := prefix(1<<48, 0, 16)
	for _, x := range []struct {
		text string
		p    api.Prefix
	}{
		{"0:0:0:0:0:0:0:0/0", api.Prefix{}},
		{"0000:0000:0000:0000:0000:0000:0000:0000/0", api.Prefix{}},
		{"0::/0", api.Prefix{}},
		{"::0/0", api.Prefix{}},
		{"0::0/0", api.Prefix{}},
		{"0:0:0:0::0:0:0/0", api.Prefix{}},
		{"::0:0:0:0:0:0:0/0", api.Prefix{}},
		{"0:0:0:0:0:0:0::/0", api.Prefix{}},
		{"1:0:0:0:0:0:0:0/16", one},
		{"0001::/16", one},
		{"0001:00::000:0000/16", one},
		{"1:0:0:0:0:0:0::/16", one},
		{"2001:DB8::/32", prefix(0x20010db8<<32, 0, 32)},
		{"2001:dB8::/32", prefix(0x20010db8<<32, 0, 32)},
		{"2001:0db8:0000:0000:0000:0000:0000:0000/32", prefix(0x20010db8<<32, 0, 32)},
		{"ABCD:EFab:cdef:FFFF:ffff:AaAa:0A:000F/128", prefix(0xabcdefabcdefffff, 0xffffaaaa000a000f, 128)},
		// The second row is the one that goes here, and the shorter one.
		{"1:0:0:4::7:8/128", of([8]uint16{1, 0, 0, 4, 0, 0, 7, 8}, 128)},
		{"1::4:0:0:0:8/128", of([8]uint16{1, 0, 0, 4, 0, 0, 0, 8}, 128)},
		{"1::3:4:5:6:7:8/128", of([8]uint16{1, 0, 3, 4, 5, 6, 7, 8}, 128)},
	} {
		if got, e := colons.Read(x.text); got != x.p || e != api.OK {
			t.Errorf("P301: Read(%q) = %x, %d, want %x", x.text, got, e, x.p)
		}
	}
}

func TestShowOfNoPrefix(t *testing.T) {
	for _, n := range []int{math.MinInt, math.MinInt32, -128, -1, 129, 130, 192, 256, 384, math.MaxInt32, math.MaxInt} {
		for _, a := range []api.Addr{{}, {Hi: 1 << 63}, {Lo: 1}, {Hi: ones, Lo: ones}} {
			if got := colons.Show(api.Prefix{Addr: a, Len: n}); got != "" {
				t.Errorf("P301: Show(%x, %d) = %q, want nothing", a, n, got)
			}
		}
	}
}

func TestReadOfNoSuchText(t *testing.T) {
	for _, s := range []string{
		"", " ", ":", "::", "/", "0", "/0", "::/", ":/0", "1/16", "0/0", ":::/0", "::::/0", ":::::::/0", "1:::2/128", "1:::/16", ":::1/128",
		"1:2:3:4:5:6:7/128", "1:2:3:4:5:6:7:8:9/128", "1:2:3:4:5:6:7:8", "1:2:3:4:5:6:7:8/", "1:/128", ":1/128", "1:2:3:4:5:6:7:/128", ":2:3:4:5:6:7:8/128", "1:2:3:4:5:6:7:8:/128", ":1:2:3:4:5:6:7:8/128",
		"1:2:3:4:5:6:7:8::/128", "::1:2:3:4:5:6:7:8/128", "1:2:3:4::5:6:7:8/128", "1:2:3:4:5:6:7:8:9::/128", "1:2:3:4:5:6:7:8:9::1/128", "0:0:0:0:0:0:0:0::/0", "::0:0:0:0:0:0:0:0/0",
		"1::2::3/128", "::1::/128", "1::2::/128", "::/::/0", ":1::/128", "::1:/128", "1::2:/128", ":1::2/128", "1:::/128",
		"::/129", "::/200", "::/256", "::/384", "::/999", "::/1000", "::/-1", "::/-0", "::/+0", "::/00", "::/000", "::/08", "::/0128", "1::/016", "::/0x0", "::/0_0", "::/1_0", "::/a", "::/0a", "::/1e1", "::/0.", "::/0:", "::/:0",
		"::/0/", "::/0/0", "/::/0", "::0//0", "0/::", "1/2:3:4:5:6:7:8/128",
		"12345::/128", "00001::/128", "00000::/0", "10000::/128", "1:2:3:4:5:6:7:00008/128", "::12345678/128", "fffff::/128",
		"g::/128", "::g/128", "G::/128", "-1::/16", "+1::/16", "0x1::/16", "x::/16", "1_0::/16", "_1::/16", "::%/0", "::%1/0", "[::]/0", "::`/0", "::@/0",
		" ::/0", "::/0 ", ":: /0", "::/ 0", ": :/0", "1 ::/16", "::/0\n", "\n::/0", "::/0\x00", "\x00::/0", "\ufeff::/0", "::\t/0",
		"1.2.3.4/32", "::1.2.3.4/128", "::ffff:1.2.3.4/128", "10.0.0.0/8", "::,/0", "::\\0", ";;/0", "1-2-3-4-5-6-7-8/128",
		"\uff11::/16", "\u0661::/16", "::/\u0660", "::/\uff10", "\uff1a\uff1a/0", "\xff::/16", "::/\xb0", "::\xc1/128",
		// What a number that wraps round would take for one.
		"10001::/16", "100000001::/16", "10000000000000001::/16", "::/4294967296", "::/18446744073709551616", "::/340282366920938463463374607431768211456", "::/-18446744073709551616",
	} {
		if got, e := colons.Read(s); got != (api.Prefix{}) || e != api.ErrBytes {
			t.Errorf("P301: Read(%q) = %x, %d, want ErrBytes", s, got, e)
		}
	}
}

func TestReadOfBitsBehindTheLength(t *testing.T) {
	for _, s := range []string{
		"8000::/0", "::1/0", "::1/127", "1::/15", "::ffff/112", "1:2:3:4:5:6:7:8/124", "2001:db8::/28", "2001:0DB8:0:0::/28", "ffff:ffff:ffff:ffff:8000::/64", "::8000:0:0:0/64", "0:0:0:1::/63", "ffff:ffff:ffff:ffff:ffff:ffff:ffff:ffff/127", "ffff:ffff:ffff:ffff:ffff:ffff:ffff:ffff/0",
	} {
		if got, e := colons.Read(s); got != (api.Prefix{}) || e != api.ErrPrefix {
			t.Errorf("P301: Read(%q) = %x, %d, want ErrPrefix", s, got, e)
		}
	}
}

func TestReadTellsNoSuchTextFirst(t *testing.T) {
	for _, s := range []string{"8000::/00", "::1/0127", "::1/129", "::1/127 ", "::1/-1", "::1/", "::1", "::00001/127", "::1::/127", "g::1/127", "1:2:3:4:5:6:7/0", "1:2:3:4:5:6:7:8:9/0"} {
		if got, e := colons.Read(s); got != (api.Prefix{}) || e != api.ErrBytes {
			t.Errorf("P301: Read(%q) = %x, %d, want ErrBytes", s, got, e)
		}
	}
}

// The shapes of eight numbers, and of a length.
var (
	shape  = regexp.MustCompile(`\A[0-9A-Fa-f]{1,4}(:[0-9A-Fa-f]{1,4}){7}\z`)
	length = regexp.MustCompile(`\A(0|[1-9][0-9]{0,2})\z`)
)

// filled is a text with as many numbers 0 as are missing in the place of its gap.
func filled(text string) string {
	ahead, behind, short := strings.Cut(text, "::")
	if !short {
		return text
	}
	for missing := 1; missing <= 8; missing++ {
		full := ahead + strings.Repeat(":0", missing) + ":" + behind
		if ahead == "" {
			full = full[1:]
		}
		if behind == "" {
			full = full[:len(full)-1]
		}
		if shape.MatchString(full) {
			return full
		}
	}
	return ""
}

// plainRead fills the gap, and reads by a shape: the form against which Read is held.
func plainRead(s string) (api.Prefix, api.Errno) {
	text, behind, _ := strings.Cut(s, "/")
	full := filled(text)
	if !shape.MatchString(full) || !length.MatchString(behind) {
		return api.Prefix{}, api.ErrBytes
	}
	n, _ := strconv.Atoi(behind)
	if n > 128 {
		return api.Prefix{}, api.ErrBytes
	}
	var l [8]uint16
	bits := ""
	for i, digits := range strings.Split(full, ":") {
		x, _ := strconv.ParseUint(digits, 16, 64)
		l[i] = uint16(x)
		bits += fmt.Sprintf("%016b", x)
	}
	if strings.Contains(bits[n:], "1") {
		return api.Prefix{}, api.ErrPrefix
	}
	return of(l, n), api.OK
}

// near are all texts that are one byte away from s: without it, with another in its place, with one more. Only some bytes are tried.
func near(s string) []string {
	const some = "0189afgAFG:;/. +-_%x\x00\x80\xff"
	var out []string
	for i := range len(s) + 1 {
		for _, b := range []byte(some) {
			out = append(out, s[:i]+string([]byte{b})+s[i:])
			if i < len(s) {
				out = append(out, s[:i]+string([]byte{b})+s[i+1:])
			}
		}
		if i < len(s) {
			out = append(out, s[:i]+s[i+1:])
		}
	}
	return out
}

func TestReadOfTextsNearby(t *testing.T) {
	told := map[api.Errno]int{}
	for _, x := range pairs {
		for _, s := range near(x.text) {
			got, e := colons.Read(s)
			want, no := plainRead(s)
			if got != want || e != no {
				t.Fatalf("P301: Read(%q) = %x, %d, want %x, %d", s, got, e, want, no)
			}
			told[e]++
			if e != api.OK {
				continue
			}
			if again, e := colons.Read(colons.Show(got)); again != got || e != api.OK {
				t.Fatalf("P302: Read of Show(%x) = %x, %d", got, again, e)
			}
		}
	}
	for _, e := range []api.Errno{api.OK, api.ErrBytes, api.ErrPrefix} {
		if told[e] == 0 {
			t.Errorf("no text nearby is answered by %d: the test has lost its use", e)
		}
	}
}

// TestReadOfSmallTexts holds Read to all short texts of the bytes that count.
func TestReadOfSmallTexts(t *testing.T) {
	texts := []string{""}
	for range 6 {
		var longer []string
		for _, s := range texts {
			for _, b := range []string{"0", "1", ":", "/"} {
				longer = append(longer, s+b)
			}
		}
		texts = longer
		for _, s := range texts {
			got, e := colons.Read(s)
			if want, no := plainRead(s); got != want || e != no {
				t.Fatalf("P301: Read(%q) = %x, %d, want %x, %d", s, got, e, want, no)
			}
		}
	}
}

func FuzzRead(f *testing.F) {
	for _, x := range pairs {
		f.Add(x.text)
	}
	f.Fuzz(func(t *testing.T, s string) {
		got, e := colons.Read(s)
		if want, no := plainRead(s); got != want || e != no {
			t.Fatalf("P301: Read(%q) = %x, %d, want %x, %d", s, got, e, want, no)
		}
	})
}

func TestReadOfLongTextsEnds(t *testing.T) {
	const many = 1 << 20
	for what, s := range map[string]string{
		"digits":           strings.Repeat("9", many),
		"zeros":            strings.Repeat("0", many) + "/0",
		"colons":           strings.Repeat(":", many) + "/0",
		"slashes":          strings.Repeat("/", many),
		"numbers":          strings.Repeat("1:", many) + ":/0",
		"numbers behind":   "::" + strings.Repeat("1:", many) + "1/128",
		"a long number":    "1" + strings.Repeat("0", many) + "::/16",
		"zeros ahead":      strings.Repeat("0", many) + "1::/16",
		"a long length":    "::/" + strings.Repeat("8", many),
		"a length of 0s":   "::/" + strings.Repeat("0", many),
		"something behind": "::/0" + strings.Repeat(" ", many),
	} {
		if got, e := colons.Read(s); got != (api.Prefix{}) || e != api.ErrBytes {
			t.Errorf("P301: Read of %s: %x, %d, want ErrBytes", what, got, e)
		}
	}
}

// answers tells what both calls answer to texts and prefixes, right ones and wrong ones.
func answers() []any {
	var out []any
	for _, x := range pairs {
		for _, s := range []string{x.text, x.text + "0", x.text + "/", "0" + x.text, x.text[1:], x.text[:len(x.text)-1]} {
			p, e := colons.Read(s)
			out = append(out, p, e)
		}
		for _, n := range []int{math.MinInt, -1, 0, 16, 64, 127, 128, 129, math.MaxInt} {
			out = append(out, colons.Show(api.Prefix{Addr: x.p.Addr, Len: n}))
		}
		out = append(out, colons.Show(x.p))
	}
	return out
}

func TestAnswersHangOnArgumentsAlone(t *testing.T) {
	first := answers()
	again := make([][]any, 8)
	var wait sync.WaitGroup
	for i := range again {
		wait.Go(func() { again[i] = answers() })
	}
	wait.Wait()
	for _, got := range again {
		if !slices.Equal(got, first) {
			t.Fatal("P302: the same arguments, another answer")
		}
	}
}
