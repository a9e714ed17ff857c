package rdata_test

import (
	"encoding/binary"
	"math"
	"slices"
	"strings"
	"sync"
	"testing"
	"unsafe"

	"wimple/api"
	"wimple/rdata"
)

// nameOf gives the name of the labels.
func nameOf(labels ...string) string {
	out := ""
	for _, l := range labels {
		out += string([]byte{byte(len(l))}) + l
	}
	return out + "\x00"
}

// longName gives a name of so many bytes, from 3 on.
func longName(size int) string {
	labels := []string{}
	for left := size - 1; left > 0; {
		part := min(left, 64)
		if left-part == 1 {
			part--
		}
		labels = append(labels, strings.Repeat("n", part-1))
		left -= part
	}
	return nameOf(labels...)
}

// wantName is chapter 1's first sentence: labels of 1 to 63 bytes, then a byte 0, at most 255 in all.
func wantName(s string) bool {
	if len(s) > 255 || s == "" {
		return false
	}
	size := int(s[0])
	if size == 0 {
		return len(s) == 1
	}
	return size <= 63 && len(s) > size && wantName(s[1+size:])
}

// wantSoa looks for any two places that part data into two names and 20 bytes.
func wantSoa(data string) bool {
	last := len(data) - 20
	if last < 0 || last > 510 {
		return false
	}
	for i := 0; i <= last; i++ {
		if wantName(data[:i]) && wantName(data[i:last]) {
			return true
		}
	}
	return false
}

// wantTxt tells from the last byte on from which places texts lead just to the end.
func wantTxt(data string) bool {
	leads := make([]bool, len(data)+1)
	leads[len(data)] = true
	for i := len(data) - 1; i >= 0; i-- {
		end := i + 1 + int(data[i])
		leads[i] = end <= len(data) && leads[end]
	}
	return len(data) >= 1 && len(data) <= 65535 && leads[0]
}

// wantMay is the chapter's head.
func wantMay(t int, data string) bool {
	if t == 1 {
		return len(data) == 4
	}
	if t == 28 {
		return len(data) == 16
	}
	if t == 2 || t == 5 || t == 12 {
		return wantName(data)
	}
	if t == 15 {
		return len(data) >= 2 && wantName(data[2:])
	}
	if t == 6 {
		return wantSoa(data)
	}
	if t == 16 {
		return wantTxt(data)
	}
	return 1 <= t && t <= 65535 && len(data) <= 65535
}

// tell shortens data for a message.
func tell(data string) string {
	if len(data) > 64 {
		return data[:64] + ".."
	}
	return data
}

// checkData holds all calls that take data against the chapter.
func checkData(t *testing.T, kind int, data string) {
	t.Helper()
	want := wantMay(kind, data)
	if got := rdata.May(kind, data); got != want {
		t.Fatalf("May(%d, %q of %d bytes) = %v, want %v", kind, tell(data), len(data), got, want)
	}
	checkHost(t, kind, data)
	checkAddr(t, data)
	checkUnsoa(t, data)
}

func checkHost(t *testing.T, kind int, data string) {
	t.Helper()
	host, e := rdata.Host(kind, data)
	wantHost, wantE := "", api.ErrRdataForm
	if slices.Contains([]int{2, 5, 12, 15}, kind) && wantMay(kind, data) {
		wantHost, wantE = data, api.OK
		if kind == 15 {
			wantHost = data[2:]
		}
	}
	if host != wantHost || e != wantE {
		t.Fatalf("Host(%d, %q of %d bytes) = %q, %d, want %q, %d", kind, tell(data), len(data), host, e, tell(wantHost), wantE)
	}
}

func checkAddr(t *testing.T, data string) {
	t.Helper()
	addr, e := rdata.Addr(data)
	wantAddr, wantE := 0, api.ErrRdataForm
	if len(data) == 4 {
		wantAddr, wantE = int(binary.BigEndian.Uint32([]byte(data))), api.OK
	}
	if addr != wantAddr || e != wantE {
		t.Fatalf("Addr(%q of %d bytes) = %d, %d, want %d, %d", tell(data), len(data), addr, e, wantAddr, wantE)
	}
}

// checkUnsoa holds Unsoa against the chapter by what the names and numbers it tells are when laid together.
func checkUnsoa(t *testing.T, data string) {
	t.Helper()
	x, e := rdata.Unsoa(data)
	if !wantSoa(data) {
		if x != (api.Soa{}) || e != api.ErrRdataForm {
			t.Fatalf("Unsoa(%q of %d bytes) = %+v, %d, want nothing, %d", tell(data), len(data), x, e, api.ErrRdataForm)
		}
		return
	}
	if e != api.OK || !wantName(x.Host) || !wantName(x.Mail) || layTogether(x) != data {
		t.Fatalf("Unsoa(%q of %d bytes) = %+v, %d", tell(data), len(data), x, e)
	}
	if back, f := rdata.Soa(x); back != data || f != api.OK {
		t.Fatalf("Soa(Unsoa(%q)) = %q, %d", tell(data), tell(back), f)
	}
}

// layTogether is TypeSoa's data by the standard library.
func layTogether(x api.Soa) string {
	out := []byte(x.Host + x.Mail)
	for _, n := range []int{x.Serial, x.Refresh, x.Retry, x.Expire, x.Minimum} {
		out = binary.BigEndian.AppendUint32(out, uint32(n))
	}
	return string(out)
}

// allTypes gives the types that the chapter names, types beside them, and numbers that are no type.
func allTypes() []int {
	return []int{
		1, 2, 5, 6, 12, 15, 16, 28, 3, 4, 7, 11, 13, 14, 17, 27, 29, 41, 99, 255, 256, 257, 65534, 65535,
		0, -1, -2, -15, -16, 65536, 65537, 65538, 65552, 1<<32 + 1, 1<<32 + 2, math.MaxInt, math.MinInt, math.MinInt + 1,
	}
}

// shorts calls each with every string of at most so many of the bytes.
func shorts(bytes string, most int, each func(s string)) {
	each("")
	if most == 0 {
		return
	}
	shorts(bytes, most-1, func(s string) {
		if len(s) == most-1 {
			for i := range len(bytes) {
				each(s + bytes[i:i+1])
			}
		}
		if s != "" {
			each(s)
		}
	})
}

func TestOrdinaryData(t *testing.T) {
	n, root := nameOf("www", "example"), "\x00"
	for _, c := range []struct {
		kind int
		data string
		want bool
	}{
		{api.TypeA, "\xc0\x00\x02\x01", true},
		{api.TypeAaaa, "\x20\x01\x0d\xb8" + strings.Repeat("\x00", 12), true},
		{api.TypeNs, n, true}, {api.TypeCname, n, true}, {api.TypePtr, n, true},
		{api.TypeNs, root, true}, {api.TypeCname, root, true}, {api.TypePtr, root, true},
		{api.TypeMx, "\x00\x0a" + n, true}, {api.TypeMx, "\x00\x00\x00", true},
		{api.TypeSoa, n + n + strings.Repeat("\xff", 20), true}, {api.TypeSoa, strings.Repeat("\x00", 22), true},
		{api.TypeTxt, "\x05v=one\x00\x01a", true}, {api.TypeTxt, "\x00", true},
		{api.TypeOpt, "", true}, {api.TypeOpt, "any", true}, {api.TypeAny, "any", true}, {99, n, true},

		{api.TypeNs, n[:len(n)-1], false}, {api.TypeCname, n[:len(n)-2], false}, {api.TypePtr, n[1:], false},
		{api.TypeNs, n + "\x00", false}, {api.TypeCname, n + n, false}, {api.TypePtr, root + root, false},
		{api.TypeMx, n, false}, {api.TypeMx, "\x00" + n, false}, {api.TypeMx, "\x00\x0a", false}, {api.TypeMx, "\x00\x0a" + n + "\x00", false},
		{api.TypeMx, "\x00\x0a\x00" + n, false}, {api.TypeMx, "\x00\x0a" + n[:len(n)-1], false},
		{api.TypeSoa, n + strings.Repeat("\xff", 20), false}, {api.TypeSoa, n + n + n + strings.Repeat("\xff", 20), false},
		{api.TypeSoa, strings.Repeat("\x00", 21), false}, {api.TypeSoa, strings.Repeat("\x00", 23), false},
		{api.TypeTxt, "", false}, {api.TypeTxt, "\x06v=one", false}, {api.TypeTxt, "\x00\x01", false}, {api.TypeTxt, "\x01ab", false},
		{0, "", false}, {65536, "", false}, {-1, "", false},
	} {
		if got := rdata.May(c.kind, c.data); got != c.want {
			t.Errorf("May(%d, %q) = %v, want %v", c.kind, c.data, got, c.want)
		}
		checkData(t, c.kind, c.data)
	}
}

// All short strings of bytes that mean something: ends, lengths that lead on, the greatest length, pointers.
func TestShortData(t *testing.T) {
	shorts("\x00\x01\x02a\xc0", 6, func(s string) {
		for _, kind := range []int{1, 2, 5, 12, 15, 6, 16, 28, 0, 99} {
			checkData(t, kind, s)
		}
	})
	shorts("\x00\x01\x03\x3f\x40\x41\xff", 4, func(s string) {
		for _, kind := range allTypes() {
			checkData(t, kind, s)
		}
	})
}

// What stands ahead of the 20 bytes is two names, no fewer and no more.
func TestShortSoa(t *testing.T) {
	shorts("\x00\x01\x02\x0aa", 6, func(s string) {
		for _, tail := range []string{strings.Repeat("\x00", 19), strings.Repeat("\x00", 20), strings.Repeat("\x00", 21), strings.Repeat("\x01", 20), "\xff\xfe\xfd\xfc\xfb\xfa\xf9\xf8\xf7\xf6\x0a\x09\x08\x07\x06\x05\x04\x03\x02\x01"} {
			checkData(t, api.TypeSoa, s+tail)
		}
	})
}

// Each length of data, for each type.
func TestEveryLength(t *testing.T) {
	for size := range 600 {
		for _, fill := range []string{"\x00", "\x01", "\x07", "x", "\xff"} {
			data := strings.Repeat(fill, size)
			for _, kind := range allTypes() {
				checkData(t, kind, data)
			}
		}
	}
}

func TestEdgesOfAddresses(t *testing.T) {
	for size := range 20 {
		data := strings.Repeat("\x01", size)
		if got := rdata.May(api.TypeA, data); got != (size == 4) {
			t.Errorf("May(TypeA, %d bytes) = %v", size, got)
		}
		if got := rdata.May(api.TypeAaaa, data); got != (size == 16) {
			t.Errorf("May(TypeAaaa, %d bytes) = %v", size, got)
		}
		addr, e := rdata.Addr(data)
		if size == 4 && (addr != 0x01010101 || e != api.OK) {
			t.Errorf("Addr(%q) = %#x, %d", data, addr, e)
		}
		if size != 4 && (addr != 0 || e != api.ErrRdataForm) {
			t.Errorf("Addr(%d bytes) = %d, %d", size, addr, e)
		}
	}
}

// Types that the chapter does not name take all data up to 65,535 bytes; numbers that are no type take none.
func TestEdgesOfTypes(t *testing.T) {
	named := []int{1, 2, 5, 6, 12, 15, 16, 28}
	for kind := -300; kind <= 70000; kind++ {
		if slices.Contains(named, kind) {
			continue
		}
		for _, data := range []string{"", "\xff\xffno name"} {
			if got, want := rdata.May(kind, data), kind >= 1 && kind <= 65535; got != want {
				t.Fatalf("May(%d, %q) = %v, want %v", kind, data, got, want)
			}
		}
	}
	for _, size := range []int{0, 1, 3, 4, 5, 15, 16, 17, 255, 256, 4096, 65534, 65535, 65536, 65537, 1 << 17} {
		data := strings.Repeat("\xff", size)
		for _, kind := range []int{3, 4, 7, 41, 99, 255, 65535} {
			if got, want := rdata.May(kind, data), size <= 65535; got != want {
				t.Errorf("May(%d, %d bytes) = %v, want %v", kind, size, got, want)
			}
		}
		for _, kind := range []int{0, -1, 65536} {
			if rdata.May(kind, data) {
				t.Errorf("May(%d, %d bytes) = true", kind, size)
			}
		}
	}
}

// Names of each length, whole and one byte too long, in each place that a name has.
func TestEdgesOfNames(t *testing.T) {
	for size := 3; size <= 258; size++ {
		n := longName(size)
		if len(n) != size {
			t.Fatalf("a name of %d bytes, want %d", len(n), size)
		}
		ok := size <= 255
		for _, kind := range []int{2, 5, 12, 15, 6} {
			checkData(t, kind, n)
			checkData(t, kind, "\x00\x01"+n)
			checkData(t, kind, n+n+strings.Repeat("\x05", 20))
			checkData(t, kind, n+"\x00"+strings.Repeat("\x05", 20))
			checkData(t, kind, "\x00"+n+strings.Repeat("\x05", 20))
		}
		if got := rdata.May(api.TypeSoa, n+n+strings.Repeat("x", 20)); got != ok {
			t.Errorf("May(TypeSoa) with names of %d bytes = %v", size, got)
		}
		if data, e := rdata.Mx(1, n); ok != (e == api.OK) || ok != (data == "\x00\x01"+n) || ok == (data == "") {
			t.Errorf("Mx with a name of %d bytes = %q, %d", size, data, e)
		}
		for _, x := range []api.Soa{{Host: n, Mail: "\x00"}, {Host: "\x00", Mail: n}, {Host: n, Mail: n}} {
			if data, e := rdata.Soa(x); ok != (e == api.OK) || ok == (data == "") {
				t.Errorf("Soa with a name of %d bytes = %q, %d", size, data, e)
			}
		}
	}
	for size := range 256 {
		n := string([]byte{byte(size)}) + strings.Repeat("a", size) + "\x00"
		for _, kind := range []int{2, 5, 12} {
			checkData(t, kind, n)
		}
		checkData(t, 15, "\x00\x01"+n)
		checkData(t, 6, n+n+strings.Repeat("\x05", 20))
	}
}

// numbers gives numbers about 0, 2^16 and 2^32, and the least and the greatest.
func numbers() []int {
	return []int{
		0, 1, 2, 255, 256, 65534, 65535, 65536, 65537, 1<<31 - 1, 1 << 31, 1<<32 - 2, 1<<32 - 1,
		1 << 32, 1<<32 + 1, 1<<32 + 65535, 1 << 48, math.MaxInt - 1, math.MaxInt, -1, -2, -65535, -65536, -1 << 32, math.MinInt, math.MinInt + 1,
	}
}

func TestAddresses(t *testing.T) {
	if data, e := rdata.A(0xc0000201); data != "\xc0\x00\x02\x01" || e != api.OK {
		t.Errorf("A = %q, %d", data, e)
	}
	if addr, e := rdata.Addr("\xff\xff\xff\xfe"); addr != 1<<32-2 || e != api.OK {
		t.Errorf("Addr = %d, %d", addr, e)
	}
	for _, x := range numbers() {
		data, e := rdata.A(x)
		if x < 0 || x > 1<<32-1 {
			if data != "" || e != api.ErrRdataForm {
				t.Errorf("A(%d) = %q, %d", x, data, e)
			}
			continue
		}
		back, f := rdata.Addr(data)
		if len(data) != 4 || e != api.OK || back != x || f != api.OK || !rdata.May(api.TypeA, data) {
			t.Errorf("A(%d) = %q, %d; back: %d, %d", x, data, e, back, f)
		}
	}
	for _, wrong := range []string{"", "a", "abc", "abcde", strings.Repeat("a", 16), strings.Repeat("a", 65540)} {
		if addr, e := rdata.Addr(wrong); addr != 0 || e != api.ErrRdataForm {
			t.Errorf("Addr(%d bytes) = %d, %d", len(wrong), addr, e)
		}
	}
}

func TestMx(t *testing.T) {
	n := nameOf("Mail", "Example")
	if data, e := rdata.Mx(0x1234, n); data != "\x12\x34\x04Mail\x07Example\x00" || e != api.OK {
		t.Errorf("Mx = %q, %d", data, e)
	}
	for _, host := range []string{n, "\x00", longName(255)} {
		for _, pref := range numbers() {
			data, e := rdata.Mx(pref, host)
			if pref < 0 || pref > 65535 {
				if data != "" || e != api.ErrRdataForm {
					t.Errorf("Mx(%d) = %q, %d", pref, data, e)
				}
				continue
			}
			if data != string([]byte{byte(pref / 256), byte(pref % 256)})+host || e != api.OK || !rdata.May(api.TypeMx, data) {
				t.Errorf("Mx(%d) = %q, %d", pref, data, e)
			}
			if back, f := rdata.Host(api.TypeMx, data); back != host || f != api.OK {
				t.Errorf("Host(Mx(%d)) = %q, %d", pref, back, f)
			}
		}
	}
	for _, wrong := range noNames() {
		for _, pref := range []int{0, 1, 65535, 65536, -1} {
			if data, e := rdata.Mx(pref, wrong); data != "" || e != api.ErrRdataForm {
				t.Errorf("Mx(%d, %q) = %q, %d", pref, tell(wrong), data, e)
			}
		}
	}
}

// noNames gives strings that are no name: empty, cut, with bytes behind, compressed, too long.
func noNames() []string {
	n := nameOf("a", "bc")
	return []string{"", "a", n[:1], n[:2], n[:len(n)-1], n + "\x00", n + "x", n + n, "\x00\x00", "\xc0\x0c", "\x01a\xc0\x0c", "\x40" + strings.Repeat("a", 64) + "\x00", longName(256), longName(300), strings.Repeat("\x01a", 1<<16) + "\x00"}
}

func TestHost(t *testing.T) {
	n := nameOf("ns", "example")
	for _, kind := range allTypes() {
		for _, data := range append(noNames(), n, "\x00", "ab"+n, "ab\x00", "ab", "abcd", n+n+strings.Repeat("x", 20), "\x00\x00\x00", longName(255), "ab"+longName(255), "ab"+longName(256)) {
			checkHost(t, kind, data)
		}
	}
	for _, kind := range []int{api.TypeNs, api.TypeCname, api.TypePtr} {
		if host, e := rdata.Host(kind, n); host != n || e != api.OK {
			t.Errorf("Host(%d) = %q, %d", kind, host, e)
		}
	}
	if host, e := rdata.Host(api.TypeMx, "\x00\x01"+n); host != n || e != api.OK {
		t.Errorf("Host(TypeMx) = %q, %d", host, e)
	}
}

func TestSoa(t *testing.T) {
	x := api.Soa{Host: nameOf("ns", "example"), Mail: nameOf("admin", "example"), Serial: 0x01020304, Refresh: 0x11121314, Retry: 0x21222324, Expire: 0x31323334, Minimum: 0x41424344}
	want := "\x02ns\x07example\x00\x05admin\x07example\x00\x01\x02\x03\x04\x11\x12\x13\x14\x21\x22\x23\x24\x31\x32\x33\x34ABCD"
	data, e := rdata.Soa(x)
	if data != want || e != api.OK {
		t.Errorf("Soa = %q, %d", data, e)
	}
	if back, e := rdata.Unsoa(want); back != x || e != api.OK {
		t.Errorf("Unsoa = %+v, %d", back, e)
	}
	for _, wrong := range noNames() {
		for _, y := range []api.Soa{{Host: wrong, Mail: x.Mail}, {Host: x.Host, Mail: wrong}, {Host: wrong, Mail: wrong}, {Host: wrong, Mail: x.Mail, Serial: -1}} {
			if data, e := rdata.Soa(y); data != "" || e != api.ErrRdataForm {
				t.Errorf("Soa(%q, %q) = %q, %d", tell(y.Host), tell(y.Mail), data, e)
			}
		}
	}
	// A name that is cut is none, even if the bytes of the next one would make it whole.
	if data, e := rdata.Soa(api.Soa{Host: "\x01", Mail: "a\x00"}); data != "" || e != api.ErrRdataForm {
		t.Errorf("Soa of a cut name = %q, %d", data, e)
	}
}

// Each number of an api.Soa, alone in its field, at its edges.
func TestNumbersOfSoa(t *testing.T) {
	fields := []func(x *api.Soa) *int{
		func(x *api.Soa) *int { return &x.Serial },
		func(x *api.Soa) *int { return &x.Refresh },
		func(x *api.Soa) *int { return &x.Retry },
		func(x *api.Soa) *int { return &x.Expire },
		func(x *api.Soa) *int { return &x.Minimum },
	}
	for i, field := range fields {
		for _, number := range numbers() {
			x := api.Soa{Host: nameOf("h"), Mail: "\x00", Serial: 1, Refresh: 2, Retry: 3, Expire: 4, Minimum: 5}
			*field(&x) = number
			data, e := rdata.Soa(x)
			if number < 0 || number > 1<<32-1 {
				if data != "" || e != api.ErrRdataForm {
					t.Errorf("field %d: Soa with %d = %q, %d", i, number, data, e)
				}
				continue
			}
			if data != layTogether(x) || e != api.OK || !rdata.May(api.TypeSoa, data) {
				t.Errorf("field %d: Soa with %d = %q, %d", i, number, data, e)
			}
			if back, f := rdata.Unsoa(data); back != x || f != api.OK {
				t.Errorf("field %d: Unsoa with %d = %+v, %d", i, number, back, f)
			}
		}
	}
}

// Every cut of whole data, and every byte behind it, is refused.
func TestWrongSoa(t *testing.T) {
	whole := nameOf("a", "b") + nameOf("c") + strings.Repeat("\x07", 20)
	for end := range whole {
		checkData(t, api.TypeSoa, whole[:end])
		if end > 0 {
			checkData(t, api.TypeSoa, whole[end:])
		}
		if x, e := rdata.Unsoa(whole[:end]); x != (api.Soa{}) || e != api.ErrRdataForm {
			t.Errorf("Unsoa(%d of %d bytes) = %+v, %d", end, len(whole), x, e)
		}
	}
	for c := range 256 {
		checkData(t, api.TypeSoa, whole+string([]byte{byte(c)}))
	}
	for _, wrong := range append(noNames(), "\x00"+strings.Repeat("x", 20), strings.Repeat("\x3f", 1<<20), strings.Repeat("\x00", 1<<20), strings.Repeat("\xc0", 300)) {
		checkData(t, api.TypeSoa, wrong)
		checkData(t, api.TypeSoa, wrong+"\x00"+strings.Repeat("x", 20))
	}
}

func TestTxt(t *testing.T) {
	long := strings.Repeat("t", 255)
	for _, c := range []struct {
		parts []string
		want  string
	}{
		{[]string{"a"}, "\x01a"},
		{[]string{""}, "\x00"},
		{[]string{"", "", ""}, "\x00\x00\x00"},
		{[]string{"two", "\x00parts\xff"}, "\x03two\x07\x00parts\xff"},
		{[]string{long}, "\xff" + long},
		{[]string{long, "", long}, "\xff" + long + "\x00\xff" + long},
	} {
		data, e := rdata.Txt(c.parts...)
		if data != c.want || e != api.OK || !rdata.May(api.TypeTxt, data) {
			t.Errorf("Txt(%q) = %q, %d", c.parts, data, e)
		}
	}
	for i, wrong := range [][]string{nil, {}, {long + "x"}, {"a", long + "x"}, {long + "x", "a"}, {strings.Repeat("t", 511)}, {strings.Repeat("t", 512)}, {strings.Repeat("t", 65535)}, {strings.Repeat("t", 65536)}} {
		if data, e := rdata.Txt(wrong...); data != "" || e != api.ErrRdataForm {
			t.Errorf("row %d: Txt = %d bytes, %d", i, len(data), e)
		}
	}
	if data, e := rdata.Txt(); data != "" || e != api.ErrRdataForm {
		t.Errorf("Txt() = %q, %d", data, e)
	}
}

// One part of each length.
func TestEveryPart(t *testing.T) {
	for size := range 600 {
		part := strings.Repeat("p", size)
		for _, parts := range [][]string{{part}, {part, "z"}, {"z", part}} {
			data, e := rdata.Txt(parts...)
			if size > 255 {
				if data != "" || e != api.ErrRdataForm {
					t.Fatalf("Txt of a part of %d bytes = %d bytes, %d", size, len(data), e)
				}
				continue
			}
			if e != api.OK || !slices.Equal(partsOf(data), parts) || !rdata.May(api.TypeTxt, data) {
				t.Fatalf("Txt of a part of %d bytes = %q, %d", size, tell(data), e)
			}
		}
	}
}

// partsOf takes TypeTxt's data apart.
func partsOf(data string) []string {
	out := []string{}
	for data != "" {
		size := min(int(data[0]), len(data)-1)
		out = append(out, data[1:1+size])
		data = data[1+size:]
	}
	return out
}

// All parts with the bytes of their lengths have at most 65,535 bytes, however they are parted.
func TestEdgesOfTxt(t *testing.T) {
	long := strings.Repeat("t", 255)
	for _, c := range []struct {
		parts []string
		size  int
	}{
		{slices.Repeat([]string{""}, 65534), 65534},
		{slices.Repeat([]string{""}, 65535), 65535},
		{slices.Repeat([]string{""}, 65536), 65536},
		{slices.Repeat([]string{"a"}, 32767), 65534},
		{slices.Repeat([]string{"a"}, 32768), 65536},
		{append(slices.Repeat([]string{"a"}, 32767), ""), 65535},
		{slices.Repeat([]string{long}, 255), 65280},
		{slices.Repeat([]string{long}, 256), 65536},
		{slices.Repeat([]string{long}, 300), 76800},
		{append(slices.Repeat([]string{long}, 255), long[1:]), 65535},
		{append(slices.Repeat([]string{long}, 255), long[1:], ""), 65536},
		{append([]string{long[1:]}, slices.Repeat([]string{long}, 255)...), 65535},
		{slices.Repeat([]string{""}, 1<<20), 1 << 20},
		{slices.Repeat([]string{long}, 1<<16), 1 << 24},
	} {
		before := slices.Clone(c.parts)
		data, e := rdata.Txt(c.parts...)
		if !slices.Equal(before, c.parts) {
			t.Errorf("Txt has changed its %d parts", len(c.parts))
		}
		if c.size > 65535 {
			if data != "" || e != api.ErrRdataForm {
				t.Errorf("Txt of %d bytes = %d bytes, %d", c.size, len(data), e)
			}
			continue
		}
		if len(data) != c.size || e != api.OK || !rdata.May(api.TypeTxt, data) || !slices.Equal(partsOf(data), c.parts) {
			t.Errorf("Txt of %d bytes = %d bytes, %d", c.size, len(data), e)
		}
	}
	for _, size := range []int{65534, 65535, 65536, 65537, 1 << 20} {
		for _, fill := range []string{"\x00", "\x01", "\xff"} {
			checkData(t, api.TypeTxt, strings.Repeat(fill, size))
		}
	}
}

// A text that is cut by one byte or more, and one byte behind the last one.
func TestCutTexts(t *testing.T) {
	for size := range 256 {
		part := strings.Repeat("p", size)
		whole := string([]byte{byte(size)}) + part
		for _, ahead := range []string{"", "\x00", "\x02ab", "\xff" + strings.Repeat("q", 255)} {
			if !rdata.May(api.TypeTxt, ahead+whole) {
				t.Fatalf("May(TypeTxt) with a text of %d bytes = false", size)
			}
			if size > 0 && (rdata.May(api.TypeTxt, ahead+whole[:size]) || rdata.May(api.TypeTxt, ahead+whole[:1])) {
				t.Fatalf("May(TypeTxt) with a text of %d bytes that is cut = true", size)
			}
			if rdata.May(api.TypeTxt, ahead+whole+"\x01") {
				t.Fatalf("May(TypeTxt) with a length behind a text of %d bytes = true", size)
			}
		}
	}
}

// Great data is refused, or taken, in a time that its size explains.
func TestGreatData(t *testing.T) {
	for _, fill := range []string{"\x00", "\x01", "\x3f", "a", "\xff"} {
		data := strings.Repeat(fill, 1<<24)
		for _, kind := range allTypes() {
			if rdata.May(kind, data) {
				t.Errorf("May(%d, %d bytes) = true", kind, len(data))
			}
			if host, e := rdata.Host(kind, data); host != "" || e != api.ErrRdataForm {
				t.Errorf("Host(%d, %d bytes) = %d", kind, len(data), e)
			}
		}
		if x, e := rdata.Unsoa(data); x != (api.Soa{}) || e != api.ErrRdataForm {
			t.Errorf("Unsoa(%d bytes) = %d", len(data), e)
		}
		if out, e := rdata.Txt(data); out != "" || e != api.ErrRdataForm {
			t.Errorf("Txt(%d bytes) = %d", len(data), e)
		}
	}
}

// shares says whether two strings have a byte of memory in common.
func shares(a, b string) bool {
	if a == "" || b == "" {
		return false
	}
	x, y := uintptr(unsafe.Pointer(unsafe.StringData(a))), uintptr(unsafe.Pointer(unsafe.StringData(b)))
	return x < y+uintptr(len(b)) && y < x+uintptr(len(a))
}

func TestNewMemory(t *testing.T) {
	for _, n := range []string{strings.Clone(nameOf("ns", "example")), strings.Clone("\x00")} {
		for _, kind := range []int{2, 5, 12} {
			host, _ := rdata.Host(kind, n)
			again, _ := rdata.Host(kind, n)
			if shares(host, n) || shares(host, again) {
				t.Errorf("Host(%d, %q) shares memory", kind, n)
			}
		}
		mx, _ := rdata.Mx(7, n)
		host, _ := rdata.Host(15, mx)
		if shares(mx, n) || shares(host, mx) {
			t.Errorf("Mx or Host of %q shares memory", n)
		}
		data, _ := rdata.Soa(api.Soa{Host: n, Mail: n})
		x, _ := rdata.Unsoa(data)
		y, _ := rdata.Unsoa(data)
		all := []string{n, data, x.Host, x.Mail, y.Host, y.Mail}
		for i, a := range all {
			for j, b := range all {
				if i != j && shares(a, b) {
					t.Errorf("Soa and Unsoa of %q: %d and %d share memory", n, i, j)
				}
			}
		}
		txt, _ := rdata.Txt(n)
		if again, _ := rdata.Txt(n); shares(txt, n) || shares(txt, again) {
			t.Errorf("Txt(%q) shares memory", n)
		}
	}
}

func TestSeveralGoroutines(t *testing.T) {
	var all sync.WaitGroup
	for g := range 8 {
		all.Go(func() {
			for i := range 500 {
				x := api.Soa{Host: nameOf("h"), Mail: nameOf("m"), Serial: i, Refresh: g, Retry: i * 65537, Expire: 1, Minimum: 2}
				data, e := rdata.Soa(x)
				back, f := rdata.Unsoa(data)
				mx, h := rdata.Mx(i, x.Host)
				host, k := rdata.Host(api.TypeMx, mx)
				if back != x || host != x.Host || e != api.OK || f != api.OK || h != api.OK || k != api.OK {
					t.Errorf("%+v: %+v, %q", x, back, host)
					return
				}
			}
		})
	}
	all.Wait()
}

func FuzzData(f *testing.F) {
	f.Add(1, "abcd", 0)
	f.Add(2, "\x02ns\x00", -1)
	f.Add(6, "\x00\x00"+strings.Repeat("x", 20), 1<<32)
	f.Add(15, "\x00\x01\x00", 65536)
	f.Add(16, "\x01a\x00", 1)
	f.Add(65536, "", math.MinInt)
	f.Fuzz(func(t *testing.T, kind int, data string, x int) {
		for _, k := range []int{kind, 1, 2, 5, 6, 12, 15, 16, 28, 99} {
			checkData(t, k, data)
		}
		if got, e := rdata.A(x); (e == api.OK) != (x >= 0 && x < 1<<32) || (e == api.OK) != (len(got) == 4) {
			t.Fatalf("A(%d) = %q, %d", x, got, e)
		}
		if got, e := rdata.Mx(x, data); (e == api.OK) != (x >= 0 && x < 1<<16 && wantName(data)) || (e == api.OK) != (got != "") {
			t.Fatalf("Mx(%d, %q) = %q, %d", x, data, got, e)
		}
		if got, e := rdata.Txt(data, "z", data); (e == api.OK) != (len(data) <= 255) || e == api.OK && !slices.Equal(partsOf(got), []string{data, "z", data}) {
			t.Fatalf("Txt(%q) = %q, %d", data, got, e)
		}
	})
}
