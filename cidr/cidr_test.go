package cidr_test

import (
	"fmt"
	"math"
	"regexp"
	"slices"
	"strconv"
	"strings"
	"sync"
	"testing"

	"flocculus/api"
	"flocculus/cidr"
)

// of makes a prefix of four numbers and a length; whoever asks says whether it is a prefix.
func of(a, b, c, d byte, n int) api.Prefix {
	word := uint64(a)<<56 | uint64(b)<<48 | uint64(c)<<40 | uint64(d)<<32
	return api.Prefix{Addr: api.Addr{Hi: word}, Len: n}
}

// pairs are texts, each with its prefix.
var pairs = []struct {
	text string
	p    api.Prefix
}{
	{"10.0.0.0/8", of(10, 0, 0, 0, 8)},
	{"0.0.0.0/0", of(0, 0, 0, 0, 0)},
	{"0.0.0.0/1", of(0, 0, 0, 0, 1)},
	{"0.0.0.0/32", of(0, 0, 0, 0, 32)},
	{"0.0.0.1/32", of(0, 0, 0, 1, 32)},
	{"128.0.0.0/1", of(128, 0, 0, 0, 1)},
	{"192.0.0.0/2", of(192, 0, 0, 0, 2)},
	{"1.2.3.4/32", of(1, 2, 3, 4, 32)},
	{"1.2.3.4/30", of(1, 2, 3, 4, 30)},
	{"4.3.2.0/24", of(4, 3, 2, 0, 24)},
	{"172.16.0.0/12", of(172, 16, 0, 0, 12)},
	{"192.168.1.128/25", of(192, 168, 1, 128, 25)},
	{"100.200.9.99/32", of(100, 200, 9, 99, 32)},
	{"255.255.255.254/31", of(255, 255, 255, 254, 31)},
	{"255.255.255.255/32", of(255, 255, 255, 255, 32)},
}

func TestPairs(t *testing.T) {
	for _, x := range pairs {
		if got := cidr.Show(x.p); got != x.text {
			t.Errorf("P201: Show(%x) = %q, want %q", x.p, got, x.text)
		}
		if got, e := cidr.Read(x.text); got != x.p || e != api.OK {
			t.Errorf("P201: Read(%q) = %x, %d, want %x", x.text, got, e, x.p)
		}
	}
}

func TestEachNumberAtEachPlace(t *testing.T) {
	for place := range 4 {
		for n := range 256 {
			var b [4]byte
			b[place] = byte(n)
			p := of(b[0], b[1], b[2], b[3], 32)
			text := fmt.Sprintf("%d.%d.%d.%d/32", b[0], b[1], b[2], b[3])
			if got := cidr.Show(p); got != text {
				t.Errorf("P201: Show(%x) = %q, want %q", p, got, text)
			}
			if got, e := cidr.Read(text); got != p || e != api.OK {
				t.Errorf("P201: Read(%q) = %x, %d, want %x", text, got, e, p)
			}
		}
	}
}

// TestEachLengthAndBit holds both calls, for each length, to an address with one bit on: within the length it is a prefix, behind it not.
func TestEachLengthAndBit(t *testing.T) {
	for n := range 33 {
		for bit := range 32 {
			word := uint32(1) << (31 - bit)
			p := api.Prefix{Addr: api.Addr{Hi: uint64(word) << 32}, Len: n}
			text := fmt.Sprintf("%d.%d.%d.%d/%d", byte(word>>24), byte(word>>16), byte(word>>8), byte(word), n)
			shown, want, no := text, p, api.OK
			if bit >= n {
				shown, want, no = "", api.Prefix{}, api.ErrPrefix
			}
			if got := cidr.Show(p); got != shown {
				t.Errorf("P201: Show(%x) = %q, want %q", p, got, shown)
			}
			if got, e := cidr.Read(text); got != want || e != no {
				t.Errorf("P201: Read(%q) = %x, %d, want %x, %d", text, got, e, want, no)
			}
		}
	}
}

func TestShowOfNoIPv4Prefix(t *testing.T) {
	for _, n := range []int{math.MinInt, math.MinInt32, -128, -32, -1, 33, 34, 64, 127, 128, 129, 160, 256, math.MaxInt32, math.MaxInt} {
		for _, a := range []api.Addr{{}, {Hi: 10 << 56}, {Hi: math.MaxUint32 << 32}} {
			if got := cidr.Show(api.Prefix{Addr: a, Len: n}); got != "" {
				t.Errorf("P201: Show(%x, %d) = %q, want nothing", a, n, got)
			}
		}
	}
	for n := range 33 {
		for _, a := range []api.Addr{{Hi: 1 << 31}, {Hi: 1}, {Lo: 1 << 63}, {Lo: 1}} {
			if got := cidr.Show(api.Prefix{Addr: a, Len: n}); got != "" {
				t.Errorf("P201: Show(%x, %d) = %q, want nothing: a bit is behind the length", a, n, got)
			}
		}
	}
	long := api.Prefix{Addr: api.Addr{Hi: 0x20010DB885A30000, Lo: 0x00008A2E03707334}, Len: 128}
	if got := cidr.Show(long); got != "" {
		t.Errorf("P201: Show(%x) = %q, want nothing", long, got)
	}
}

func TestReadOfNoSuchText(t *testing.T) {
	for _, s := range []string{
		"", " ", ".", "/", "...", ".../", "0", "10", "/8",
		"10.0.0.0", "10.0.0.0/", "10.0.0/8", "10.0/8", "10/8", "10.0.0.0.0/8", "10.0.0.0./8", ".10.0.0.0/8", "10..0.0/8", "10.0..0/8", "10.0.0./8",
		"10.0.0.0/8/", "10.0.0.0//8", "/10.0.0.0/8", "10.0.0.0/8.", "10.0.0.0.8", "10/0.0.0/8", "10.0/0.0/8", "10.0.0/0/8", "8/10.0.0.0",
		"00.0.0.0/0", "010.0.0.0/8", "10.00.0.0/8", "10.0.00.0/8", "10.0.0.00/8", "10.0.0.0/08", "10.0.0.0/008", "0.0.0.0/00", "1.2.3.04/32", "1.2.3.4/032",
		"256.0.0.0/8", "0.256.0.0/32", "0.0.256.0/32", "0.0.0.256/32", "0.0.0.999/32", "0.0.0.1000/32", "300.0.0.0/0",
		"0.0.0.0/33", "0.0.0.0/99", "0.0.0.0/64", "0.0.0.0/128", "0.0.0.0/100", "1.2.3.4/256", "1.2.3.4/288",
		"+10.0.0.0/8", "-10.0.0.0/8", "10.-0.0.0/8", "10.0.0.0/+8", "10.0.0.0/-8", "0.0.0.0/-0", "0.0.0.0/-1", "-0.0.0.0/0",
		" 10.0.0.0/8", "10.0.0.0/8 ", "10.0.0.0 /8", "10.0.0.0/ 8", "10. 0.0.0/8", "10.0.0.0/8\n", "10.0.0.0/8\x00", "\x0010.0.0.0/8", "\ufeff10.0.0.0/8",
		"a.0.0.0/8", "0xa.0.0.0/8", "1e1.0.0.0/8", "1_0.0.0.0/8", "10.0.0.0/8a", "10.0.0.0/0x8", "10,0,0,0/8", "10.0.0.0\\8", "10:0:0:0/8", "::/0", "::10.0.0.0/8",
		"\u0663.0.0.0/8", "10.0.0.0/\u0668", "\uff11.0.0.0/8", "10\uff0e0.0.0/8", "\xff.0.0.0/8", "10.0.0.0/\xb8",
		// What a number that wraps round would take for one.
		"4294967306.0.0.0/8", "18446744073709551626.0.0.0/8", "10.0.0.0/4294967304", "10.0.0.0/18446744073709551624", "0.0.0.18446744073709551616/0", "0.0.0.0/340282366920938463463374607431768211456",
	} {
		if got, e := cidr.Read(s); got != (api.Prefix{}) || e != api.ErrBytes {
			t.Errorf("P201: Read(%q) = %x, %d, want ErrBytes", s, got, e)
		}
	}
}

func TestReadOfBitsBehindTheLength(t *testing.T) {
	for _, s := range []string{
		"128.0.0.0/0", "0.0.0.1/0", "255.255.255.255/0", "64.0.0.0/1", "10.0.0.0/6", "10.0.0.1/8", "10.128.0.0/8", "10.0.1.0/23", "1.2.3.5/31", "255.255.255.255/31",
	} {
		if got, e := cidr.Read(s); got != (api.Prefix{}) || e != api.ErrPrefix {
			t.Errorf("P201: Read(%q) = %x, %d, want ErrPrefix", s, got, e)
		}
	}
}

func TestReadTellsNoSuchTextFirst(t *testing.T) {
	for _, s := range []string{"128.0.0.0/00", "10.0.0.1/08", "10.0.0.1/33", "10.0.0.1/8 ", "10.0.0.1/-8", "10.0.0.1/", "10.0.0.1", "10.0.0.01/8", "10.0.0.256/8", "10.0.0.1.1/8"} {
		if got, e := cidr.Read(s); got != (api.Prefix{}) || e != api.ErrBytes {
			t.Errorf("P201: Read(%q) = %x, %d, want ErrBytes", s, got, e)
		}
	}
}

var shape = regexp.MustCompile(`\A(0|[1-9][0-9]{0,2})\.(0|[1-9][0-9]{0,2})\.(0|[1-9][0-9]{0,2})\.(0|[1-9][0-9]{0,2})/(0|[1-9][0-9]?)\z`)

// plain reads by a shape and by division: the form against which Read is held.
func plain(s string) (api.Prefix, api.Errno) {
	found := shape.FindStringSubmatch(s)
	if found == nil {
		return api.Prefix{}, api.ErrBytes
	}
	word := uint64(0)
	for _, digits := range found[1:5] {
		n, _ := strconv.Atoi(digits)
		if n > 255 {
			return api.Prefix{}, api.ErrBytes
		}
		word = word*256 + uint64(n)
	}
	n, _ := strconv.Atoi(found[5])
	switch {
	case n > 32:
		return api.Prefix{}, api.ErrBytes
	case word%(1<<(32-n)) != 0:
		return api.Prefix{}, api.ErrPrefix
	}
	return api.Prefix{Addr: api.Addr{Hi: word << 32}, Len: n}, api.OK
}

// near are all texts that are one byte away from s: without it, with another in its place, with one more.
func near(s string) []string {
	var out []string
	for i := range len(s) + 1 {
		for b := range 256 {
			out = append(out, s[:i]+string([]byte{byte(b)})+s[i:])
			if i < len(s) {
				out = append(out, s[:i]+string([]byte{byte(b)})+s[i+1:])
			}
		}
		if i < len(s) {
			out = append(out, s[:i]+s[i+1:])
		}
	}
	return out
}

func TestReadOfTextsNearby(t *testing.T) {
	told := map[api.Errno]int{}
	for _, x := range pairs {
		for _, s := range near(x.text) {
			got, e := cidr.Read(s)
			want, no := plain(s)
			if got != want || e != no {
				t.Fatalf("P201: Read(%q) = %x, %d, want %x, %d", s, got, e, want, no)
			}
			if shown := cidr.Show(got); e == api.OK && shown != s {
				t.Fatalf("P201: Show of Read(%q) = %q", s, shown)
			}
			told[e]++
		}
	}
	for _, e := range []api.Errno{api.OK, api.ErrBytes, api.ErrPrefix} {
		if told[e] == 0 {
			t.Errorf("no text nearby is answered by %d: the test has lost its use", e)
		}
	}
}

func FuzzRead(f *testing.F) {
	for _, x := range pairs {
		f.Add(x.text)
	}
	f.Fuzz(func(t *testing.T, s string) {
		got, e := cidr.Read(s)
		if want, no := plain(s); got != want || e != no {
			t.Fatalf("P201: Read(%q) = %x, %d, want %x, %d", s, got, e, want, no)
		}
	})
}

func TestReadOfLongTextsEnds(t *testing.T) {
	const many = 1 << 20
	for what, s := range map[string]string{
		"digits":           strings.Repeat("9", many),
		"zeros":            strings.Repeat("0", many),
		"dots":             strings.Repeat(".", many),
		"slashes":          strings.Repeat("/", many),
		"numbers":          strings.Repeat("1.", many),
		"a long number":    "1" + strings.Repeat("0", many) + ".0.0.0/8",
		"zeros ahead":      strings.Repeat("0", many) + "10.0.0.0/8",
		"a long length":    "10.0.0.0/" + strings.Repeat("8", many),
		"a length of 0s":   "0.0.0.0/" + strings.Repeat("0", many),
		"something behind": "10.0.0.0/8" + strings.Repeat(" ", many),
	} {
		if got, e := cidr.Read(s); got != (api.Prefix{}) || e != api.ErrBytes {
			t.Errorf("P201: Read of %s: %x, %d, want ErrBytes", what, got, e)
		}
	}
}

// answers tells what both calls answer to texts and prefixes, right ones and wrong ones.
func answers() []any {
	var out []any
	for _, x := range pairs {
		for _, s := range []string{x.text, x.text + "0", x.text + "/", "0" + x.text, x.text[1:], x.text[:len(x.text)-1]} {
			p, e := cidr.Read(s)
			out = append(out, p, e)
		}
		for _, n := range []int{math.MinInt, -1, 0, 8, 31, 32, 33, 128, math.MaxInt} {
			out = append(out, cidr.Show(api.Prefix{Addr: x.p.Addr, Len: n}))
		}
		out = append(out, cidr.Show(x.p))
	}
	return out
}

func TestAnswersHangOnArgumentsAlone(t *testing.T) {
	first := answers()
	again := make([][]any, 8)
	var wait sync.WaitGroup
	for i := range again {
		wait.Go(func() { again[i] = answers() })
	}
	wait.Wait()
	for _, got := range again {
		if !slices.Equal(got, first) {
			t.Fatal("P202: the same arguments, another answer")
		}
	}
}
