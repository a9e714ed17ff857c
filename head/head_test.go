package head_test

import (
	"fmt"
	"math"
	"math/rand"
	"strconv"
	"strings"
	"sync"
	"testing"
	"unsafe"

	"wimple/api"
	"wimple/head"
)

// part is a part of the twelve bytes: how many bits it has, how it is set, and how it is told.
type part struct {
	name string
	bits int
	flag bool
	set  func(h *api.Head, counts *[4]int, x int)
	get  func(h api.Head, counts [4]int) int
}

// flag makes a part of one bit of a field that is a bool.
func flag(name string, field func(h *api.Head) *bool) part {
	set := func(h *api.Head, _ *[4]int, x int) { *field(h) = x == 1 }
	get := func(h api.Head, _ [4]int) int {
		if *field(&h) {
			return 1
		}
		return 0
	}
	return part{name, 1, true, set, get}
}

// number makes a part of a field that is a number.
func number(name string, bits int, field func(h *api.Head) *int) part {
	set := func(h *api.Head, _ *[4]int, x int) { *field(h) = x }
	get := func(h api.Head, _ [4]int) int { return *field(&h) }
	return part{name, bits, false, set, get}
}

// count makes a part of one of the four counts.
func count(i int) part {
	set := func(_ *api.Head, counts *[4]int, x int) { counts[i] = x }
	get := func(_ api.Head, counts [4]int) int { return counts[i] }
	return part{"count " + strconv.Itoa(i), 16, false, set, get}
}

// parts gives P6.1's row of bits, the highest of the first byte first.
func parts() []part {
	return []part{
		number("Id", 16, func(h *api.Head) *int { return &h.Id }),
		flag("Qr", func(h *api.Head) *bool { return &h.Qr }),
		number("Op", 4, func(h *api.Head) *int { return &h.Op }),
		flag("Aa", func(h *api.Head) *bool { return &h.Aa }),
		flag("Tc", func(h *api.Head) *bool { return &h.Tc }),
		flag("Rd", func(h *api.Head) *bool { return &h.Rd }),
		flag("Ra", func(h *api.Head) *bool { return &h.Ra }),
		number("Z", 3, func(h *api.Head) *int { return &h.Z }),
		number("Rcode", 4, func(h *api.Head) *int { return &h.Rcode }),
		count(0), count(1), count(2), count(3),
	}
}

// numbers gives the parts that may hold what their bits can't tell.
func numbers() []part {
	var out []part
	for _, p := range parts() {
		if !p.flag {
			out = append(out, p)
		}
	}
	return out
}

// wantPut is P6.1's first half, said over a text of digits of base 2.
func wantPut(h api.Head, counts [4]int) (string, api.Errno) {
	digits := ""
	for _, p := range parts() {
		x := p.get(h, counts)
		if x < 0 || x > 1<<p.bits-1 {
			return "", api.ErrHeadForm
		}
		digits += fmt.Sprintf("%0*b", p.bits, x)
	}
	var out []byte
	for ; digits != ""; digits = digits[8:] {
		x, _ := strconv.ParseUint(digits[:8], 2, 8)
		out = append(out, byte(x))
	}
	return string(out), api.OK
}

// wantGet is P6.1's second half, said so too.
func wantGet(s string) (api.Head, [4]int, api.Errno) {
	var h api.Head
	var counts [4]int
	if len(s) < 12 {
		return h, counts, api.ErrHeadForm
	}
	digits := ""
	for _, c := range []byte(s[:12]) {
		digits += fmt.Sprintf("%08b", c)
	}
	for _, p := range parts() {
		x, _ := strconv.ParseUint(digits[:p.bits], 2, 16)
		p.set(&h, &counts, int(x))
		digits = digits[p.bits:]
	}
	return h, counts, api.OK
}

// checkPut holds Put against the chapter, and gives what it answered.
func checkPut(t *testing.T, h api.Head, counts [4]int) (string, api.Errno) {
	t.Helper()
	s, e := head.Put(h, counts)
	if want, f := wantPut(h, counts); s != want || e != f {
		t.Fatalf("P6.1: Put(%+v, %d) = %q, %d, want %q, %d", h, counts, s, e, want, f)
	}
	return s, e
}

// checkGet holds Get against the chapter, and what it tells against Put.
func checkGet(t *testing.T, s string) {
	t.Helper()
	h, counts, e := head.Get(s)
	if wh, wc, f := wantGet(s); h != wh || counts != wc || e != f {
		t.Fatalf("P6.1: Get(%.20q of %d) = %+v, %d, %d, want %+v, %d, %d", s, len(s), h, counts, e, wh, wc, f)
	}
	if e != api.OK {
		return
	}
	if again, f := head.Put(h, counts); again != s[:12] || f != api.OK {
		t.Fatalf("P6.1: Put(Get(%.20q)) = %q, %d", s, again, f)
	}
}

// full gives a header and counts of which every bit is set.
func full() (api.Head, [4]int) {
	var h api.Head
	var counts [4]int
	for _, p := range parts() {
		p.set(&h, &counts, 1<<p.bits-1)
	}
	return h, counts
}

// wrongNumbers gives numbers that so many bits can't tell; many of them would be told if their higher bits, or their sign, were let go.
func wrongNumbers(bits int) []int {
	out := []int{
		math.MinInt, math.MinInt + 1, math.MinInt32, math.MinInt16, -65537, -65536, -65535, -256, -16, -15, -8, -7, -3, -2, -1,
		65536, 65537, 1<<17 - 1, 1 << 31, 1<<32 - 1, 1 << 32, 1<<32 + 1, 1<<32 + 7, 1 << 48, math.MaxInt - 1, math.MaxInt,
	}
	for i := bits; i < 63; i++ {
		out = append(out, 1<<i, 1<<i+1, 1<<i|(1<<bits-1), -1<<i)
	}
	return out
}

func TestOrdinaryHeads(t *testing.T) {
	for _, c := range []struct {
		h      api.Head
		counts [4]int
		want   string
	}{
		{api.Head{}, [4]int{}, "\x00\x00\x00\x00\x00\x00\x00\x00\x00\x00\x00\x00"},
		{api.Head{Id: 0x1234, Rd: true}, [4]int{1, 0, 0, 1}, "\x12\x34\x01\x00\x00\x01\x00\x00\x00\x00\x00\x01"},
		{api.Head{Id: 0xbeef, Qr: true, Rd: true, Ra: true}, [4]int{1, 2, 3, 4}, "\xbe\xef\x81\x80\x00\x01\x00\x02\x00\x03\x00\x04"},
		{api.Head{Id: 7, Qr: true, Aa: true, Rcode: api.RcodeNx}, [4]int{1, 0, 1, 0}, "\x00\x07\x84\x03\x00\x01\x00\x00\x00\x01\x00\x00"},
		{api.Head{Id: 256, Qr: true, Op: 5, Tc: true, Rcode: api.RcodeRefused}, [4]int{256, 512, 1024, 4096}, "\x01\x00\xaa\x05\x01\x00\x02\x00\x04\x00\x10\x00"},
		{api.Head{Op: 9, Z: 5}, [4]int{0xa1b2, 0xc3d4, 0xe5f6, 0x0718}, "\x00\x00\x48\x50\xa1\xb2\xc3\xd4\xe5\xf6\x07\x18"},
		{api.Head{Id: 65535, Qr: true, Op: 15, Aa: true, Tc: true, Rd: true, Ra: true, Z: 7, Rcode: 15}, [4]int{65535, 65535, 65535, 65535}, strings.Repeat("\xff", 12)},
	} {
		if s, e := head.Put(c.h, c.counts); s != c.want || e != api.OK {
			t.Errorf("P6.1: Put(%+v, %d) = %q, %d, want %q", c.h, c.counts, s, e, c.want)
		}
		if h, counts, e := head.Get(c.want); h != c.h || counts != c.counts || e != api.OK {
			t.Errorf("P6.1: Get(%q) = %+v, %d, %d, want %+v, %d", c.want, h, counts, e, c.h, c.counts)
		}
	}
}

func TestEdgesOfNumbers(t *testing.T) {
	for _, c := range []struct {
		name string
		h    api.Head
		ok   bool
	}{
		{"Id 0", api.Head{Id: 0}, true}, {"Id 65535", api.Head{Id: 65535}, true}, {"Id 65536", api.Head{Id: 65536}, false}, {"Id -1", api.Head{Id: -1}, false},
		{"Op 0", api.Head{Op: 0}, true}, {"Op 15", api.Head{Op: 15}, true}, {"Op 16", api.Head{Op: 16}, false}, {"Op -1", api.Head{Op: -1}, false},
		{"Z 0", api.Head{Z: 0}, true}, {"Z 7", api.Head{Z: 7}, true}, {"Z 8", api.Head{Z: 8}, false}, {"Z -1", api.Head{Z: -1}, false},
		{"Rcode 0", api.Head{Rcode: 0}, true}, {"Rcode 15", api.Head{Rcode: 15}, true}, {"Rcode 16", api.Head{Rcode: 16}, false}, {"Rcode -1", api.Head{Rcode: -1}, false},
	} {
		s, e := head.Put(c.h, [4]int{})
		if c.ok && (len(s) != 12 || e != api.OK) || !c.ok && (s != "" || e != api.ErrHeadForm) {
			t.Errorf("P6.1: %s: %q, %d", c.name, s, e)
		}
	}
	for i := range 4 {
		for x, ok := range map[int]bool{0: true, 65535: true, 65536: false, -1: false} {
			var counts [4]int
			counts[i] = x
			s, e := head.Put(api.Head{}, counts)
			if ok && (len(s) != 12 || e != api.OK) || !ok && (s != "" || e != api.ErrHeadForm) {
				t.Errorf("P6.1: count %d of %d: %q, %d", i, x, s, e)
			}
		}
	}
}

// What is wrong is told with nothing beside it and with everything, and nothing but the error is told.
func TestWrongNumbers(t *testing.T) {
	allHead, allCounts := full()
	for _, p := range numbers() {
		for _, x := range wrongNumbers(p.bits) {
			if x >= 0 && x < 1<<p.bits {
				continue
			}
			h, counts := api.Head{}, [4]int{}
			p.set(&h, &counts, x)
			s, e := head.Put(h, counts)
			h, counts = allHead, allCounts
			p.set(&h, &counts, x)
			r, f := head.Put(h, counts)
			if s != "" || e != api.ErrHeadForm || r != "" || f != api.ErrHeadForm {
				t.Errorf("P6.1: %s of %d: %q, %d, and with all else set %q, %d", p.name, x, s, e, r, f)
			}
		}
	}
}

// Two wrong numbers don't make up for each other.
func TestTwoWrongNumbers(t *testing.T) {
	all := numbers()
	for i, p := range all {
		for _, q := range all[i+1:] {
			for _, x := range []int{math.MinInt, -1, 1 << p.bits, 1 << 32, math.MaxInt} {
				for _, y := range []int{math.MinInt, -1, 1 << q.bits, 1 << 32, math.MaxInt} {
					h, counts := api.Head{}, [4]int{}
					p.set(&h, &counts, x)
					q.set(&h, &counts, y)
					if s, e := head.Put(h, counts); s != "" || e != api.ErrHeadForm {
						t.Errorf("P6.1: %s of %d and %s of %d: %q, %d", p.name, x, q.name, y, s, e)
					}
				}
			}
		}
	}
}

func TestFlags(t *testing.T) {
	for _, c := range []struct {
		h    api.Head
		word string
	}{
		{api.Head{Qr: true}, "\x80\x00"}, {api.Head{Aa: true}, "\x04\x00"}, {api.Head{Tc: true}, "\x02\x00"},
		{api.Head{Rd: true}, "\x01\x00"}, {api.Head{Ra: true}, "\x00\x80"},
		{api.Head{Qr: true, Aa: true, Tc: true, Rd: true, Ra: true}, "\x87\x80"},
	} {
		want := "\x00\x00" + c.word + strings.Repeat("\x00", 8)
		if s, e := head.Put(c.h, [4]int{}); s != want || e != api.OK {
			t.Errorf("P6.1: Put(%+v) = %q, %d, want %q", c.h, s, e, want)
		}
		if h, counts, e := head.Get(want); h != c.h || counts != [4]int{} || e != api.OK {
			t.Errorf("P6.1: Get(%q) = %+v, %d, %d, want %+v", want, h, counts, e, c.h)
		}
	}
}

// Each of the 96 bits alone, and all others without it, belongs to one part and to no other.
func TestEachBitInItsPlace(t *testing.T) {
	allHead, allCounts := full()
	place := 0
	for _, p := range parts() {
		for i := range p.bits {
			bit := 1 << (p.bits - 1 - i)
			alone := make([]byte, 12)
			alone[place/8] = 128 >> (place % 8)
			rest := []byte(strings.Repeat("\xff", 12))
			rest[place/8] ^= 128 >> (place % 8)
			place++

			h, counts := api.Head{}, [4]int{}
			p.set(&h, &counts, bit)
			sameBothWays(t, p.name, h, counts, string(alone))
			h, counts = allHead, allCounts
			p.set(&h, &counts, 1<<p.bits-1-bit)
			sameBothWays(t, p.name, h, counts, string(rest))
		}
	}
	if place != 96 {
		t.Errorf("P6.1: %d bits", place)
	}
}

// sameBothWays says that the header and the bytes are one and the same.
func sameBothWays(t *testing.T, name string, h api.Head, counts [4]int, s string) {
	t.Helper()
	if got, e := head.Put(h, counts); got != s || e != api.OK {
		t.Errorf("P6.1: %s: Put(%+v, %d) = %q, %d, want %q", name, h, counts, got, e, s)
	}
	if back, c, e := head.Get(s); back != h || c != counts || e != api.OK {
		t.Errorf("P6.1: %s: Get(%q) = %+v, %d, %d, want %+v, %d", name, s, back, c, e, h, counts)
	}
}

// Every value of each pair of bytes, between pairs of other bytes.
func TestEveryPair(t *testing.T) {
	for pair := range 6 {
		for x := range 1 << 16 {
			b := []byte("\x5a\xc3\x96\x0f\xa5\x3c\x69\xf0\x5a\x3c\x87\x1e")
			b[2*pair], b[2*pair+1] = byte(x/256), byte(x%256)
			// Flags and small numbers are the one pair of several parts; the others are held to the chapter at fewer values.
			if pair == 1 || x%97 == 0 {
				checkGet(t, string(b))
				continue
			}
			h, counts, e := head.Get(string(b))
			if s, f := head.Put(h, counts); s != string(b) || e != api.OK || f != api.OK {
				t.Fatalf("P6.1: %q: %q, %d, %d", b, s, e, f)
			}
		}
	}
}

// Fewer than twelve bytes are none; of more, only the first twelve are told.
func TestLengths(t *testing.T) {
	s := "\x12\x34\xd6\xb9\x01\x02\x03\x04\x05\x06\x07\x08"
	wantHead := api.Head{Id: 0x1234, Qr: true, Op: 10, Aa: true, Tc: true, Ra: true, Z: 3, Rcode: 9}
	wantCounts := [4]int{0x102, 0x304, 0x506, 0x708}
	for n := range 12 {
		for _, cut := range []string{s[:n], strings.Repeat("\x00", n), strings.Repeat("\xff", n)} {
			if h, counts, e := head.Get(cut); h != (api.Head{}) || counts != [4]int{} || e != api.ErrHeadForm {
				t.Errorf("P6.1: %d bytes: %+v, %d, %d", n, h, counts, e)
			}
		}
	}
	for _, n := range []int{0, 1, 2, 12, 500, api.MaxMessage - 12, api.MaxMessage, 1 << 20} {
		for _, behind := range []string{"\x00", "\xff", "a"} {
			h, counts, e := head.Get(s + strings.Repeat(behind, n))
			if h != wantHead || counts != wantCounts || e != api.OK {
				t.Errorf("P6.1: %d bytes %q behind: %+v, %d, %d", n, behind, h, counts, e)
			}
		}
	}
}

func TestEmptyString(t *testing.T) {
	if h, counts, e := head.Get(""); h != (api.Head{}) || counts != [4]int{} || e != api.ErrHeadForm {
		t.Errorf("P6.1: %+v, %d, %d", h, counts, e)
	}
}

// Headers of which each number is likely to lie at an edge, right or wrong.
func TestSomeHeads(t *testing.T) {
	r := rand.New(rand.NewSource(6))
	oks := 0
	for range 20000 {
		var h api.Head
		var counts [4]int
		for _, p := range parts() {
			most := 1<<p.bits - 1
			x := r.Intn(most + 1)
			switch {
			case !p.flag && r.Intn(30) == 0:
				x = []int{-1, most + 1, -most - 1, 1 << 32, math.MinInt, math.MaxInt}[r.Intn(6)]
			case r.Intn(4) == 0:
				x = []int{0, most}[r.Intn(2)]
			}
			p.set(&h, &counts, x)
		}
		s, e := checkPut(t, h, counts)
		if e != api.OK {
			continue
		}
		oks++
		if back, c, f := head.Get(s); back != h || c != counts || f != api.OK {
			t.Fatalf("P6.1: Get(Put(%+v, %d)) = %+v, %d, %d", h, counts, back, c, f)
		}
	}
	if oks < 5000 || oks > 18000 {
		t.Errorf("%d of 20000 headers were right: both kinds are wanted", oks)
	}
}

func TestSomeBytes(t *testing.T) {
	r := rand.New(rand.NewSource(12))
	for range 20000 {
		b := make([]byte, r.Intn(20))
		r.Read(b)
		checkGet(t, string(b))
	}
}

// Two answers share no memory.
func TestNewMemory(t *testing.T) {
	h, counts := full()
	for _, c := range []api.Head{{}, {Id: 1, Rd: true}, h} {
		a, e := head.Put(c, counts)
		b, f := head.Put(c, counts)
		if e != api.OK || f != api.OK || a != b || unsafe.StringData(a) == unsafe.StringData(b) {
			t.Errorf("P6.1: Put(%+v) twice: %q, %d, %q, %d", c, a, e, b, f)
		}
	}
}

func TestSeveralGoroutines(t *testing.T) {
	var all sync.WaitGroup
	for g := range 8 {
		all.Go(func() {
			for i := range 2000 {
				x := i*8 + g
				h := api.Head{Id: x, Qr: g%2 == 0, Op: i % 16, Rd: i%3 == 0, Z: g, Rcode: x % 16}
				counts := [4]int{x, 65535 - x, g, i}
				s, e := head.Put(h, counts)
				back, c, f := head.Get(s)
				if back != h || c != counts || e != api.OK || f != api.OK {
					t.Errorf("P6.1: %+v, %d: %+v, %d, %d, %d", h, counts, back, c, e, f)
					return
				}
			}
		})
	}
	all.Wait()
}

func FuzzHeads(f *testing.F) {
	f.Add("", 0, 0, 0, 0, 0, 0, 0, 0, uint8(0))
	f.Add("\x12\x34\x81\x80\x00\x01\x00\x01\x00\x00\x00\x00", 65535, 15, 7, 15, 65535, 65535, 65535, 65535, uint8(31))
	f.Add("01234567890", 65536, 16, 8, 16, 65536, -1, math.MaxInt, math.MinInt, uint8(21))
	f.Fuzz(func(t *testing.T, s string, id, op, z, rcode, qs, an, ns, ar int, flags uint8) {
		checkGet(t, s)
		h := api.Head{Id: id, Op: op, Z: z, Rcode: rcode}
		h.Qr, h.Aa, h.Tc, h.Rd, h.Ra = flags&1 != 0, flags&2 != 0, flags&4 != 0, flags&8 != 0, flags&16 != 0
		out, e := checkPut(t, h, [4]int{qs, an, ns, ar})
		if e == api.OK {
			checkGet(t, out)
		}
	})
}
