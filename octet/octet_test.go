package octet_test

import (
	"encoding/binary"
	"math"
	"math/big"
	"strings"
	"sync"
	"testing"
	"unsafe"

	"wimple/api"
	"wimple/octet"
)

// reader is U16 or U32, writer is Put16 or Put32.
type (
	reader func(s string, at int) (int, int, api.Errno)
	writer func(x int) string
)

// size is a pair of calls for so many bytes.
type size struct {
	name  string
	bytes int
	read  reader
	write writer
}

func sizes() []size {
	return []size{{"16", 2, octet.U16, octet.Put16}, {"32", 4, octet.U32, octet.Put32}}
}

// wantNumber is P3.1's first sentence, said over digits of base 256.
func wantNumber(s string, at int, need int) (int, int, api.Errno) {
	if at < 0 || at >= len(s) || len(s[at:]) < need {
		return 0, 0, api.ErrOctetCut
	}
	x := 0
	for _, c := range []byte(s[at : at+need]) {
		x = x*256 + int(c)
	}
	return x, at + need, api.OK
}

// wantBytes is P3.1's second sentence, said over whole numbers of any size: big's Mod is the rest from 0 on.
func wantBytes(x int, n int) string {
	all := new(big.Int).Lsh(big.NewInt(1), uint(8*n))
	rest := new(big.Int).Mod(big.NewInt(int64(x)), all)
	return string(rest.FillBytes(make([]byte, n)))
}

// checkRead holds U16 and U32 against the chapter.
func checkRead(t *testing.T, s string, at int) {
	t.Helper()
	for _, z := range sizes() {
		x, to, e := z.read(s, at)
		wx, wto, we := wantNumber(s, at, z.bytes)
		if x != wx || to != wto || e != we {
			t.Fatalf("U%s(%d bytes, %d) = %d, %d, %d, want %d, %d, %d", z.name, len(s), at, x, to, e, wx, wto, we)
		}
	}
}

// checkWrite holds Put16 and Put32 against the chapter.
func checkWrite(t *testing.T, x int) {
	t.Helper()
	for _, z := range sizes() {
		if got, want := z.write(x), wantBytes(x, z.bytes); got != want {
			t.Fatalf("Put%s(%d) = %q, want %q", z.name, x, got, want)
		}
	}
}

// wrongPlaces gives places that no string of the tests has bytes at.
func wrongPlaces() []int {
	return []int{
		math.MinInt, math.MinInt + 1, math.MinInt + 2, math.MinInt + 3, math.MinInt + 4, math.MinInt32, -5, -4, -3, -2, -1,
		1 << 31, 1 << 32, 1<<32 + 1, 1<<62 - 1, math.MaxInt - 5, math.MaxInt - 4, math.MaxInt - 3, math.MaxInt - 2, math.MaxInt - 1, math.MaxInt,
	}
}

// edges gives numbers near each power of two, above and below 0.
func edges() []int {
	out := []int{0, math.MaxInt, math.MaxInt - 1, math.MinInt, math.MinInt + 1}
	for i := range 63 {
		p := 1 << i
		out = append(out, p-1, p, p+1, -p-1, -p, -p+1)
	}
	return out
}

func TestOrdinaryNumbers(t *testing.T) {
	s := "\x12\x34\x56\x78\x9a"
	for _, c := range []struct {
		read  reader
		at    int
		x, to int
	}{
		{octet.U16, 0, 0x1234, 2}, {octet.U16, 1, 0x3456, 3}, {octet.U16, 3, 0x789a, 5},
		{octet.U32, 0, 0x12345678, 4}, {octet.U32, 1, 0x3456789a, 5},
	} {
		x, to, e := c.read(s, c.at)
		if x != c.x || to != c.to || e != api.OK {
			t.Errorf("at %d: %#x, %d, %d, want %#x, %d, 0", c.at, x, to, e, c.x, c.to)
		}
	}
}

func TestOrdinaryBytes(t *testing.T) {
	for _, c := range []struct {
		x          int
		two, whole string
	}{
		{0, "\x00\x00", "\x00\x00\x00\x00"},
		{1, "\x00\x01", "\x00\x00\x00\x01"},
		{0x1234, "\x12\x34", "\x00\x00\x12\x34"},
		{0x12345678, "\x56\x78", "\x12\x34\x56\x78"},
		{1<<16 - 1, "\xff\xff", "\x00\x00\xff\xff"},
		{1 << 16, "\x00\x00", "\x00\x01\x00\x00"},
		{1<<31 - 1, "\xff\xff", "\x7f\xff\xff\xff"},
		{1 << 31, "\x00\x00", "\x80\x00\x00\x00"},
		{1<<32 - 1, "\xff\xff", "\xff\xff\xff\xff"},
		{1 << 32, "\x00\x00", "\x00\x00\x00\x00"},
		{1<<32 + 0x203, "\x02\x03", "\x00\x00\x02\x03"},
		{-1, "\xff\xff", "\xff\xff\xff\xff"},
		{-2, "\xff\xfe", "\xff\xff\xff\xfe"},
		{-256, "\xff\x00", "\xff\xff\xff\x00"},
		{-1 << 16, "\x00\x00", "\xff\xff\x00\x00"},
		{-1 << 32, "\x00\x00", "\x00\x00\x00\x00"},
		{-1<<32 - 1, "\xff\xff", "\xff\xff\xff\xff"},
		{math.MaxInt, "\xff\xff", "\xff\xff\xff\xff"},
		{math.MinInt, "\x00\x00", "\x00\x00\x00\x00"},
	} {
		if got := octet.Put16(c.x); got != c.two {
			t.Errorf("Put16(%d) = %q, want %q", c.x, got, c.two)
		}
		if got := octet.Put32(c.x); got != c.whole {
			t.Errorf("Put32(%d) = %q, want %q", c.x, got, c.whole)
		}
	}
}

// Each number of 16 bits is told by its bytes alone, whatever stands around them.
func TestEveryPair(t *testing.T) {
	for x := range 1 << 16 {
		s := string([]byte{byte(x / 256), byte(x % 256)})
		if octet.Put16(x) != s || octet.Put16(x+1<<16) != s || octet.Put16(x-1<<16) != s {
			t.Fatalf("Put16(%d) = %q", x, octet.Put16(x))
		}
		for at, around := range []string{s, "\xff" + s + "\xff", "\x80\x00" + s} {
			got, to, e := octet.U16(around, at)
			if got != x || to != at+2 || e != api.OK {
				t.Fatalf("U16(%q, %d) = %d, %d, %d, want %d", around, at, got, to, e, x)
			}
		}
		checkRead(t, s+"\x00\x00", 0)
		checkRead(t, "\xff\xff"+s, 0)
		checkRead(t, s+"\x80\x7f\x01", 1)
	}
}

// Each byte counts in each of its places, the highest first, and none makes a number below 0.
func TestEveryByteInItsPlace(t *testing.T) {
	for _, z := range sizes() {
		for place := range z.bytes {
			for c := range 256 {
				b := make([]byte, z.bytes)
				b[place] = byte(c)
				want := c << (8 * (z.bytes - 1 - place))
				x, to, e := z.read(string(b), 0)
				if x != want || to != z.bytes || e != api.OK {
					t.Fatalf("U%s(%q) = %d, %d, %d, want %d", z.name, b, x, to, e, want)
				}
				if got := z.write(want); got != string(b) {
					t.Fatalf("Put%s(%d) = %q, want %q", z.name, want, got, b)
				}
			}
		}
	}
}

// Every place, of each length: just as many bytes as are needed, one fewer, none, and places beyond.
func TestEveryPlace(t *testing.T) {
	for size := range 20 {
		b := make([]byte, size)
		for i := range b {
			b[i] = byte(0xf1 + 7*i)
		}
		for at := -8; at <= size+8; at++ {
			checkRead(t, string(b), at)
		}
		for _, at := range wrongPlaces() {
			checkRead(t, string(b), at)
		}
	}
}

func TestCutBytes(t *testing.T) {
	for _, z := range sizes() {
		whole := strings.Repeat("\xff", z.bytes)
		for _, c := range []struct {
			s  string
			at int
			ok bool
		}{
			{whole, 0, true}, {whole[1:], 0, false}, {whole, 1, false}, {whole + "a", 1, true}, {whole + "a", 2, false},
			{whole, len(whole), false}, {whole, len(whole) + 1, false}, {whole, -1, false}, {whole, -len(whole), false},
			{"", 0, false}, {"", 1, false}, {"", -1, false}, {"", -z.bytes, false},
			{"", math.MaxInt, false}, {"", math.MinInt, false}, {whole, math.MaxInt, false}, {whole, math.MinInt, false},
			{whole, math.MaxInt - z.bytes + 1, false}, {whole, math.MaxInt - z.bytes, false},
		} {
			x, to, e := z.read(c.s, c.at)
			if c.ok && (e != api.OK || to != c.at+z.bytes) {
				t.Errorf("U%s(%q, %d) = %d, %d, %d, want a number", z.name, c.s, c.at, x, to, e)
			}
			if !c.ok && (x != 0 || to != 0 || e != api.ErrOctetCut) {
				t.Errorf("U%s(%q, %d) = %d, %d, %d, want 0, 0, %d", z.name, c.s, c.at, x, to, e, api.ErrOctetCut)
			}
		}
	}
}

func TestEdgesOfNumbers(t *testing.T) {
	for _, x := range edges() {
		checkWrite(t, x)
	}
	for x := -70000; x <= 140000; x++ {
		checkWrite(t, x)
	}
}

// There and back: what is put is told again, and what is told is put again.
func TestThereAndBack(t *testing.T) {
	for _, z := range sizes() {
		all := 1 << (8 * z.bytes)
		for _, x := range edges() {
			rest := ((x % all) + all) % all
			s := z.write(x)
			got, to, e := z.read(s, 0)
			if got != rest || to != len(s) || e != api.OK || z.write(got) != s {
				t.Errorf("U%s(Put%s(%d)) = %d, %d, %d, want %d", z.name, z.name, x, got, to, e, rest)
			}
		}
	}
}

// Numbers that stand one behind the other are told by going on at the place behind.
func TestOneBehindTheOther(t *testing.T) {
	s := octet.Put16(0xfedc) + octet.Put32(0x89abcdef) + octet.Put16(7) + octet.Put32(1<<32-1)
	at, got := 0, []int{}
	for _, read := range []reader{octet.U16, octet.U32, octet.U16, octet.U32} {
		x, to, e := read(s, at)
		if e != api.OK {
			t.Fatalf("at %d: error %d", at, e)
		}
		got, at = append(got, x), to
	}
	if got[0] != 0xfedc || got[1] != 0x89abcdef || got[2] != 7 || got[3] != 1<<32-1 || at != len(s) {
		t.Errorf("%#x, then at %d of %d", got, at, len(s))
	}
	if _, _, e := octet.U16(s, at); e != api.ErrOctetCut {
		t.Errorf("behind the end: %d", e)
	}
}

func TestGreatStrings(t *testing.T) {
	s := strings.Repeat("\x01\x02\x03\x04\x05\x06\x07", 1<<20)
	for at := len(s) - 10; at <= len(s)+10; at++ {
		checkRead(t, s, at)
	}
	for at := 0; at < len(s); at += 9973 {
		checkRead(t, s, at)
	}
}

// Two answers share no memory.
func TestNewMemory(t *testing.T) {
	for _, z := range sizes() {
		for _, x := range edges() {
			a, b := z.write(x), z.write(x)
			if unsafe.StringData(a) == unsafe.StringData(b) {
				t.Fatalf("Put%s(%d): two answers share memory", z.name, x)
			}
		}
	}
}

func TestSeveralGoroutines(t *testing.T) {
	var all sync.WaitGroup
	for g := range 8 {
		all.Go(func() {
			for i := range 2000 {
				x := i*65537 + g
				s := octet.Put32(x) + octet.Put16(x)
				y, to, e := octet.U32(s, 0)
				z, end, f := octet.U16(s, to)
				if y != x || z != x%65536 || end != 6 || e != api.OK || f != api.OK {
					t.Errorf("%d: %d, %d, %d, %d", x, y, z, e, f)
					return
				}
			}
		})
	}
	all.Wait()
}

func FuzzNumbers(f *testing.F) {
	f.Add("", 0, 0)
	f.Add("\x12\x34\x56\x78", 0, 1<<32)
	f.Add("\xff\xff\xff", 1, -1)
	f.Add("abcd", math.MaxInt, math.MinInt)
	f.Fuzz(func(t *testing.T, s string, at int, x int) {
		checkRead(t, s, at)
		checkWrite(t, x)
		if at >= 0 && at <= len(s)-4 && uint32(mustU32(t, s, at)) != binary.BigEndian.Uint32([]byte(s[at:])) {
			t.Fatalf("U32(%q, %d)", s, at)
		}
	})
}

// mustU32 is U32 where it has to tell a number.
func mustU32(t *testing.T, s string, at int) int {
	t.Helper()
	x, _, e := octet.U32(s, at)
	if e != api.OK {
		t.Fatalf("U32(%q, %d): error %d", s, at, e)
	}
	return x
}
