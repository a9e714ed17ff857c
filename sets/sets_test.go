package sets_test

import (
	"bytes"
	"fmt"
	"math"
	"math/rand"
	"slices"
	"strings"
	"sync"
	"testing"
	"time"
	"unsafe"

	"wimple/api"
	"wimple/rdata"
	"wimple/sets"
)

const root = "\x00"

// free is a type whose data may be any bytes, and none; other is one more.
const (
	free  = 99
	other = 100
)

// nameOf gives the name of the labels.
func nameOf(labels ...string) string {
	out := ""
	for _, l := range labels {
		out += string([]byte{byte(len(l))}) + l
	}
	return out + root
}

// in gives a record of ClassIn.
func in(n string, kind int, ttl int, data string) api.Rr {
	return api.Rr{Name: n, Type: kind, Class: 1, Ttl: ttl, Data: data}
}

// of gives x with another class.
func of(class int, x api.Rr) api.Rr {
	x.Class = class
	return x
}

// row gives a list of the records; set a set of the datas.
func row(rrs ...api.Rr) []api.Rr {
	return rrs
}

func set(n string, kind int, ttl int, datas ...string) api.Set {
	return api.Set{Name: n, Type: kind, Ttl: ttl, Datas: datas}
}

// tell shortens what is told.
func tell(x any) string {
	s := fmt.Sprintf("%+q", fmt.Sprintf("%+v", x))
	if len(s) > 600 {
		return s[:600] + ".."
	}
	return s
}

// sameSet says whether two sets are, an empty list and nil being one; sameSets whether two lists of them are.
func sameSet(a, b api.Set) bool {
	return a.Name == b.Name && a.Type == b.Type && a.Ttl == b.Ttl && slices.Equal(a.Datas, b.Datas)
}

func sameSets(a, b []api.Set) bool {
	return slices.EqualFunc(a, b, sameSet)
}

// mayName is chapter 1's head.
func mayName(n string) bool {
	size := len(n)
	for n != "" && n[0] >= 1 && n[0] <= 63 && len(n) > int(n[0]) {
		n = n[1+n[0]:]
	}
	return n == root && size <= 255
}

// folded is chapter 2's head: no length of a label is as great as a letter.
func folded(n string) string {
	out := []byte(n)
	for i, c := range out {
		if c >= 65 && c <= 90 {
			out[i] = c + 32
		}
	}
	return string(out)
}

// mayRr is what P11.1 asks of each record, whatever its class.
func mayRr(x api.Rr) bool {
	return mayName(x.Name) && x.Type >= 1 && x.Type <= 65535 && x.Ttl >= 0 && x.Ttl <= 4294967295 && rdata.May(x.Type, x.Data)
}

// wantDatas gives those texts rising, each once: again and again the least that is above the last one.
func wantDatas(texts []string) []string {
	var out []string
	for {
		var least []byte
		found := false
		for _, s := range texts {
			b := []byte(s)
			above := len(out) == 0 || bytes.Compare(b, []byte(out[len(out)-1])) > 0
			if above && (!found || bytes.Compare(b, least) < 0) {
				least, found = b, true
			}
		}
		if !found {
			return out
		}
		out = append(out, string(least))
	}
}

// wantGroup is P11.1: of each record that is the first of its name and type it goes over all of them again.
func wantGroup(rrs []api.Rr) ([]api.Set, api.Errno) {
	if len(rrs) > 64 {
		return nil, api.ErrSetsForm
	}
	for _, x := range rrs {
		if !mayRr(x) {
			return nil, api.ErrSetsForm
		}
	}
	var out []api.Set
	for i, first := range rrs {
		var texts []string
		least, isFirst := 86400, first.Class == 1
		for j, x := range rrs {
			if x.Class != 1 || x.Type != first.Type || folded(x.Name) != folded(first.Name) {
				continue
			}
			if j < i {
				isFirst = false
			}
			if x.Ttl < least {
				least = x.Ttl
			}
			texts = append(texts, x.Data)
		}
		if isFirst {
			out = append(out, set(folded(first.Name), first.Type, least, wantDatas(texts)...))
		}
	}
	return out, api.OK
}

// wantRrs is P11.2.
func wantRrs(s api.Set) []api.Rr {
	var out []api.Rr
	for _, data := range s.Datas {
		out = append(out, in(s.Name, s.Type, s.Ttl, data))
	}
	return out
}

// check holds Group against P11.1, and what it gives against both promises again.
func check(t *testing.T, rrs []api.Rr) ([]api.Set, api.Errno) {
	t.Helper()
	got, e := sets.Group(rrs)
	if want, f := wantGroup(rrs); !sameSets(got, want) || e != f {
		t.Fatalf("P11.1: Group(%s) = %s, %d, want %s, %d", tell(rrs), tell(got), e, tell(want), f)
	}
	var all []api.Rr
	for _, s := range got {
		all = append(all, checkRrs(t, s)...)
	}
	if again, f := sets.Group(all); !sameSets(again, got) || f != api.OK {
		t.Fatalf("P11.2: the records of %s are those of %s, %d", tell(got), tell(again), f)
	}
	return got, e
}

// checkRrs holds Rrs against P11.2.
func checkRrs(t *testing.T, s api.Set) []api.Rr {
	t.Helper()
	got := sets.Rrs(s)
	if want := wantRrs(s); !slices.Equal(got, want) {
		t.Fatalf("P11.2: Rrs(%s) = %s, want %s", tell(s), tell(got), tell(want))
	}
	return got
}

// wantSets holds Group against sets that are written out.
func wantSets(t *testing.T, what string, rrs []api.Rr, want ...api.Set) {
	t.Helper()
	if got, e := sets.Group(rrs); !sameSets(got, want) || e != api.OK {
		t.Errorf("P11.1: %s: %s, %d, want %s", what, tell(got), e, tell(want))
	}
	check(t, rrs)
}

// wantForm holds that Group refuses the records.
func wantForm(t *testing.T, what string, rrs []api.Rr) {
	t.Helper()
	if got, e := sets.Group(rrs); got != nil || e != api.ErrSetsForm {
		t.Errorf("P11.1: %s: %s, %d", what, tell(got), e)
	}
}

func TestOrdinaryRecords(t *testing.T) {
	www, ns, zone := nameOf("www", "example"), nameOf("ns", "example"), nameOf("example")
	wantSets(t, "one record", row(in(www, 1, 60, "abcd")), set(www, 1, 60, "abcd"))
	wantSets(t, "two of a set", row(in(www, 1, 60, "abcd"), in(www, 1, 60, "abce")), set(www, 1, 60, "abcd", "abce"))
	wantSets(t, "a set of each", row(in(www, 1, 60, "abcd"), in(ns, 1, 70, "abcd"), in(zone, 2, 80, ns)),
		set(www, 1, 60, "abcd"), set(ns, 1, 70, "abcd"), set(zone, 2, 80, ns))
	wantSets(t, "the root's", row(in(root, 2, 518400, ns)), set(root, 2, 86400, ns))
	soa := ns + ns + strings.Repeat("\x01", 20)
	wantSets(t, "each type", row(
		in(zone, 1, 9, "abcd"), in(zone, 2, 9, ns), in(zone, 5, 9, ns), in(zone, 6, 9, soa), in(zone, 12, 9, ns), in(zone, 15, 9, "\x00\x0a"+ns),
		in(zone, 16, 9, "\x03abc"), in(zone, 28, 9, "0123456789abcdef"), in(zone, 41, 9, ""), in(zone, 255, 9, "any"), in(zone, free, 9, "")),
		set(zone, 1, 9, "abcd"), set(zone, 2, 9, ns), set(zone, 5, 9, ns), set(zone, 6, 9, soa), set(zone, 12, 9, ns), set(zone, 15, 9, "\x00\x0a"+ns),
		set(zone, 16, 9, "\x03abc"), set(zone, 28, 9, "0123456789abcdef"), set(zone, 41, 9, ""), set(zone, 255, 9, "any"), set(zone, free, 9, ""))
}

func TestNoRecord(t *testing.T) {
	wantSets(t, "nil", nil)
	wantSets(t, "an empty list", row())
	wantSets(t, "an empty list with room", make([]api.Rr, 0, 8))
}

// So many records, and one more, of one set and each of its own, of ClassIn, of another class and of both.
func TestHowMany(t *testing.T) {
	if api.MaxRrs != 64 {
		t.Fatalf("MaxRrs is %d", api.MaxRrs)
	}
	makers := map[string]func(i int) api.Rr{
		"all one":               func(int) api.Rr { return in(nameOf("a"), 1, 1, "abcd") },
		"one set":               func(i int) api.Rr { return in(nameOf("a"), free, i, string([]byte{byte(200 - i)})) },
		"types":                 func(i int) api.Rr { return in(nameOf("a"), 1000+i, i, "x") },
		"names":                 func(i int) api.Rr { return in(nameOf(fmt.Sprint(i)), free, i, "x") },
		"another class":         func(int) api.Rr { return of(3, in(nameOf("a"), 1, 1, "abcd")) },
		"other classes":         func(i int) api.Rr { return of(2+i, in(nameOf(fmt.Sprint(i)), 1, 1, "abcd")) },
		"both":                  func(i int) api.Rr { return of(1+i%2, in(nameOf("a"), free, 1, fmt.Sprint(i))) },
		"one of class 1, first": func(i int) api.Rr { return of(min(i, 1)+1, in(nameOf("a"), free, 1, "")) },
		"the last of class 1":   func(i int) api.Rr { return of(2-i/63%2, in(nameOf("a"), free, 1, "")) },
	}
	for what, maker := range makers {
		for _, count := range []int{0, 1, 2, 31, 62, 63, 64, 65, 66, 128, 129, 256, 320} {
			rrs := make([]api.Rr, count)
			for i := range rrs {
				rrs[i] = maker(i)
			}
			if _, e := check(t, rrs); (e == api.ErrSetsForm) != (count > 64) {
				t.Errorf("P11.1: %s: %d of them: %d", what, count, e)
			}
		}
	}
	wantForm(t, "too many of no kind", make([]api.Rr, 65))
	wantForm(t, "one of no kind", make([]api.Rr, 1))
	got, _ := sets.Group(slices.Repeat(row(in(nameOf("a"), 1, 1, "abcd")), 64))
	if !sameSets(got, []api.Set{set(nameOf("a"), 1, 1, "abcd")}) {
		t.Errorf("P11.1: 64 times one record: %s", tell(got))
	}
}

// noNames gives bytes of all kinds that are no name.
func noNames() []string {
	long := strings.Repeat("a", 63)
	return []string{
		"", "a", "com", ".", "\x01", "\x01a", "\x02a\x00", "\x3f\x00", "\x00\x00", "\x00\x01a\x00", "\x01a\x00\x00", "\x01a\x00b", "\xc0\x0c", "\x01a\xc0\x00",
		"\x40" + long + "a\x00", nameOf(long, long, long, long[:62]), strings.Repeat("\x01a", 128) + root, strings.Repeat("\x00", 1<<16),
	}
}

// everywhere puts the record x at each place of rows of right records, of both classes, with x of both classes too.
func everywhere(x api.Rr) [][]api.Rr {
	good := in(nameOf("good"), 1, 7, "abcd")
	var out [][]api.Rr
	for _, class := range []int{1, 3, x.Class} {
		y := of(class, x)
		for _, beside := range []api.Rr{good, of(3, good), of(class, good)} {
			for _, size := range []int{1, 2, 3, 64} {
				for _, at := range []int{0, 1, size / 2, size - 1} {
					rrs := slices.Repeat(row(beside), size)
					rrs[min(at, size-1)] = y
					out = append(out, rrs)
				}
			}
		}
	}
	return out
}

// wrongEverywhere holds that x is refused wherever it stands and whatever its class is.
func wrongEverywhere(t *testing.T, what string, x api.Rr) {
	t.Helper()
	for _, rrs := range everywhere(x) {
		wantForm(t, what, rrs)
		check(t, rrs)
	}
}

// rightEverywhere holds that x is let stand wherever it is and whatever its class is.
func rightEverywhere(t *testing.T, what string, x api.Rr) {
	t.Helper()
	for _, rrs := range everywhere(x) {
		if _, e := check(t, rrs); e != api.OK {
			t.Errorf("P11.1: %s: %d", what, e)
		}
	}
}

func TestNames(t *testing.T) {
	for _, n := range noNames() {
		wrongEverywhere(t, "no name", in(n, 1, 1, "abcd"))
	}
	long := strings.Repeat("A", 63)
	for _, n := range []string{root, nameOf("a"), nameOf(long), nameOf(long, long, long, long[:61]), strings.Repeat("\x01A", 127) + root, nameOf("\x00"), nameOf("\xff\xc0.\\")} {
		rightEverywhere(t, "a name", in(n, 1, 1, "abcd"))
	}
}

func TestTypesAtTheirEdges(t *testing.T) {
	for _, kind := range []int{0, -1, -2, -28, 65536, 65537, 65536 + 99, 1<<31 + 99, 1<<32 + 1, 1<<32 + 99, -65535, -65536 + 99, math.MinInt, math.MinInt + 1, math.MaxInt} {
		for _, data := range []string{"", "abcd", root} {
			wrongEverywhere(t, fmt.Sprintf("the type %d", kind), in(nameOf("a"), kind, 1, data))
		}
	}
	for _, kind := range []int{1, 3, 4, 7, 41, 254, 255, 256, 257, 32767, 32768, 65534, 65535} {
		rightEverywhere(t, fmt.Sprintf("the type %d", kind), in(nameOf("a"), kind, 1, "abcd"))
	}
}

// Every type is a set of its own.
func TestEveryType(t *testing.T) {
	n, data := nameOf("a"), func(kind int) string {
		switch kind {
		case 1, 16:
			return "\x03abc"
		case 28:
			return "0123456789abcdef"
		case 15:
			return "\x00\x00\x00"
		case 6:
			return root + root + strings.Repeat("\x00", 20)
		}
		return root
	}
	for kind := 1; kind < 65535; kind++ {
		got, e := sets.Group(row(in(n, kind, 2, data(kind)), in(n, kind+1, 1, data(kind+1)), in(n, kind, 3, data(kind))))
		want := []api.Set{set(n, kind, 2, data(kind)), set(n, kind+1, 1, data(kind+1))}
		if !sameSets(got, want) || e != api.OK {
			t.Fatalf("P11.1: the type %d and the next: %s, %d", kind, tell(got), e)
		}
	}
}

func TestTtlsAtTheirEdges(t *testing.T) {
	for _, ttl := range []int{-1, -2, -86400, 1 << 32, 1<<32 + 1, 1<<33 + 5, 1 << 62, -1 << 32, -1<<32 + 5, math.MinInt, math.MinInt + 60, math.MaxInt} {
		wrongEverywhere(t, fmt.Sprintf("the Ttl %d", ttl), in(nameOf("a"), 1, ttl, "abcd"))
	}
	for _, ttl := range []int{0, 1, 59, 86399, 86400, 86401, 1<<31 - 1, 1 << 31, 1<<31 + 1, 1<<32 - 2, 1<<32 - 1} {
		rightEverywhere(t, fmt.Sprintf("the Ttl %d", ttl), in(nameOf("a"), 1, ttl, "abcd"))
	}
}

func TestWrongData(t *testing.T) {
	long := strings.Repeat("x", 65536)
	good, soa := nameOf("Host", "a"), nameOf("h")+nameOf("m")+strings.Repeat("n", 20)
	for kind, datas := range map[int][]string{
		1:     {"", "abc", "abcde", long},
		28:    {"", "abcd", strings.Repeat("a", 15), strings.Repeat("a", 17)},
		2:     noNames(),
		5:     noNames(),
		12:    noNames(),
		15:    {"", "\x00", "\x00\x0a", "\x00\x0a\x01", "\x00" + good, "\x00\x0a" + good + root},
		6:     {"", root, root + root, soa[1:], soa[:len(soa)-1], soa + "n"},
		16:    {"", "\x01", "\x02a", "\x01a\x01", "\x00" + long, strings.Repeat("\x00", 65536)},
		41:    {long},
		free:  {long, long + long},
		65535: {long},
	} {
		for _, data := range datas {
			wrongEverywhere(t, fmt.Sprintf("data of the type %d", kind), in(nameOf("a"), kind, 1, data))
		}
	}
	for kind, datas := range map[int][]string{
		1:     {"abcd", "\x00\x00\x00\x00", "\xff\xff\xff\xff"},
		28:    {strings.Repeat("a", 16)},
		2:     {root, good},
		5:     {root, good},
		12:    {root, good},
		15:    {"\x00\x0a" + good, "\xff\xff" + root},
		6:     {soa, root + root + soa[:20]},
		16:    {"\x00", "\x01a\x00", strings.Repeat("\x00", 65535)},
		41:    {"", "x"},
		free:  {"", "x", long[1:]},
		65535: {"", long[1:]},
	} {
		for _, data := range datas {
			rightEverywhere(t, fmt.Sprintf("data of the type %d", kind), in(nameOf("a"), kind, 1, data))
		}
	}
	// Data that may be for one type and not for another one.
	wantForm(t, "data of another type", row(in(nameOf("a"), 2, 1, good), in(nameOf("a"), 1, 1, good)))
}

// Two faults, one in each record, and several in one, are one error.
func TestSeveralFaults(t *testing.T) {
	bad := []api.Rr{in("", 1, 1, "abcd"), in(nameOf("a"), 0, 1, "abcd"), in(nameOf("a"), 1, -1, "abcd"), in(nameOf("a"), 1, 1, "abc"), in("x", 65536, 1<<32, "")}
	for _, x := range bad {
		for _, y := range bad {
			wantForm(t, "two wrong ones", row(x, of(3, y)))
		}
		wantForm(t, "too many wrong ones", slices.Repeat(row(x), 65))
	}
}

// Records of every other class are let go, with all that they say; a class is no wrong one, whatever number it is.
func TestOtherClasses(t *testing.T) {
	classes := []int{-1, -2, -65535, 65536, 65537, 1<<32 + 1, 1<<16 + 1, -1<<32 + 1, 1<<62 + 1, math.MinInt, math.MinInt + 1, math.MaxInt}
	for class := range 1 << 16 {
		if class != 1 {
			classes = append(classes, class)
		}
	}
	n := nameOf("a")
	x, y := in(n, free, 50, "b"), in(n, free, 60, "a")
	for _, class := range classes {
		foreign := of(class, in(n, free, 1, "c"))
		alone, e := sets.Group(row(foreign))
		if len(alone) != 0 || e != api.OK {
			t.Fatalf("P11.1: the class %d alone: %s, %d", class, tell(alone), e)
		}
		got, e := sets.Group(row(foreign, x, foreign, y, foreign))
		if !sameSets(got, []api.Set{set(n, free, 50, "a", "b")}) || e != api.OK {
			t.Fatalf("P11.1: the class %d among others: %s, %d", class, tell(got), e)
		}
	}
}

// What is let go is no set's first record, has no least Ttl and no data, and makes no set.
func TestWhatIsLetGo(t *testing.T) {
	a, b := nameOf("a"), nameOf("b")
	wantSets(t, "its place", row(of(3, in(b, free, 9, "x")), in(a, free, 9, "x"), in(b, free, 9, "x")), set(a, free, 9, "x"), set(b, free, 9, "x"))
	wantSets(t, "its Ttl", row(in(a, free, 9, "x"), of(3, in(a, free, 0, "x"))), set(a, free, 9, "x"))
	wantSets(t, "its data", row(in(a, free, 9, "x"), of(4, in(a, free, 9, "w"))), set(a, free, 9, "x"))
	wantSets(t, "its name", row(in(a, free, 9, "x"), of(0, in(b, free, 9, "x"))), set(a, free, 9, "x"))
	wantSets(t, "its type", row(of(255, in(a, other, 9, "x")), in(a, free, 9, "x")), set(a, free, 9, "x"))
	wantSets(t, "all of them", row(of(0, in(a, free, 9, "x")), of(2, in(b, free, 9, "x")), of(3, in(a, free, 9, "y"))))
}

func TestNamesInBothCases(t *testing.T) {
	small, great, mixed := nameOf("www", "example"), nameOf("WWW", "EXAMPLE"), nameOf("wWw", "eXample")
	for _, rrs := range [][]api.Rr{
		row(in(small, free, 3, "a"), in(great, free, 2, "b"), in(mixed, free, 1, "c")),
		row(in(great, free, 1, "c"), in(mixed, free, 2, "b"), in(small, free, 3, "a")),
		row(in(mixed, free, 1, "b"), in(great, free, 2, "a"), in(mixed, free, 3, "c"), in(mixed, free, 3, "a")),
	} {
		wantSets(t, "one name", rrs, set(small, free, 1, "a", "b", "c"))
	}
	wantSets(t, "a great one alone", row(in(great, 1, 3, "abcd")), set(small, 1, 3, "abcd"))
	wantSets(t, "two types", row(in(great, free, 3, "b"), in(small, other, 2, "a"), in(small, free, 1, "a")), set(small, free, 1, "a", "b"), set(small, other, 2, "a"))
	// Names within data are bytes: nothing folds them, and both are there.
	wantSets(t, "two datas", row(in(small, 2, 3, small), in(small, 2, 3, great)), set(small, 2, 3, great, small))
}

// Each pair of bytes in a label is one name or two, by folding alone.
func TestEachPairOfBytes(t *testing.T) {
	for a := range 256 {
		for b := range 256 {
			x, y := nameOf("q"+string([]byte{byte(a)}), "z"), nameOf("q"+string([]byte{byte(b)}), "Z")
			got, e := sets.Group(row(in(x, free, 2, "1"), in(y, free, 1, "0")))
			want := []api.Set{set(folded(x), free, 2, "1"), set(folded(y), free, 1, "0")}
			if folded(x) == folded(y) {
				want = []api.Set{set(folded(x), free, 1, "0", "1")}
			}
			if !sameSets(got, want) || e != api.OK {
				t.Fatalf("P11.1: the bytes %d and %d: %s, %d", a, b, tell(got), e)
			}
		}
	}
}

// Names that are near each other are two all the same.
func TestNamesThatAreNear(t *testing.T) {
	near := []string{
		root, nameOf("a"), nameOf("b"), nameOf("aa"), nameOf("a", "a"), nameOf("a", "b"), nameOf("b", "a"), nameOf("a.b"), nameOf("a\x01b"), nameOf("a", "b", "a"),
		nameOf("\x00"), nameOf("\x00", "\x00"), nameOf("a\x00"), nameOf("\xe1"), nameOf("\xc1"), nameOf("@"), nameOf("`"), nameOf("["), nameOf("{"),
	}
	var rrs []api.Rr
	var want []api.Set
	for i, n := range near {
		rrs = append(rrs, in(n, free, i, "x"))
		want = append(want, set(n, free, i, "x"))
	}
	wantSets(t, "near names", rrs, want...)
	wantSets(t, "each of them thrice", slices.Concat(rrs, rrs, rrs), want...)
	for i := range near {
		for j := range near {
			check(t, row(in(near[i], free, 2, "x"), in(near[j], free, 1, "w"), in(near[i], free, 3, "v")))
		}
	}
}

// The row of sets is the one of their first records, neither of their names, their types nor their greatness.
func TestRowOfSets(t *testing.T) {
	a, b, c := nameOf("a"), nameOf("b"), nameOf("c")
	one, two, three := in(a, free, 1, "x"), in(b, other, 2, "x"), in(c, 7, 3, "x")
	first, second, third := set(a, free, 1, "x"), set(b, other, 2, "x"), set(c, 7, 3, "x")
	wantSets(t, "1 2 3", row(one, two, three), first, second, third)
	wantSets(t, "1 3 2", row(one, three, two), first, third, second)
	wantSets(t, "2 1 3", row(two, one, three), second, first, third)
	wantSets(t, "2 3 1", row(two, three, one), second, third, first)
	wantSets(t, "3 1 2", row(three, one, two), third, first, second)
	wantSets(t, "3 2 1", row(three, two, one), third, second, first)
	wantSets(t, "3 2 3 1 1 2 3", row(three, two, three, one, one, two, three), third, second, first)
	wantSets(t, "types of one name", row(in(a, 9, 1, "x"), in(a, 7, 1, "x"), in(a, 8, 1, "x"), in(a, 7, 1, "y"), in(a, 9, 1, "w")),
		set(a, 9, 1, "w", "x"), set(a, 7, 1, "x", "y"), set(a, 8, 1, "x"))
	wantSets(t, "names of one type", row(in(c, 7, 1, "x"), in(a, 7, 1, "x"), in(b, 7, 1, "x"), in(a, 7, 1, "y"), in(c, 7, 1, "w")),
		set(c, 7, 1, "w", "x"), set(a, 7, 1, "x", "y"), set(b, 7, 1, "x"))
	// As many sets as there can be, their first records standing in a row that is no order's.
	var rrs []api.Rr
	var want []api.Set
	for i := range 64 {
		n, kind := nameOf(fmt.Sprint(i*37%64)), 1000+i*23%64
		rrs = append(rrs, in(n, kind, i, "x"))
		want = append(want, set(n, kind, i, "x"))
	}
	for range 20 {
		wantSets(t, "64 sets", rrs, want...)
	}
}

// The least Ttl counts wherever it stands, and just for its own set.
func TestLeastTtl(t *testing.T) {
	a, b := nameOf("a"), nameOf("b")
	ttls := []int{0, 1, 2, 86398, 86399, 86400, 86401, 86402, 1<<31 - 1, 1 << 31, 1<<32 - 2, 1<<32 - 1}
	for _, x := range ttls {
		wantSets(t, "one", row(in(a, free, x, "x")), set(a, free, min(x, 86400), "x"))
		for _, y := range ttls {
			wantSets(t, "of two", row(in(a, free, x, "x"), in(a, free, y, "y")), set(a, free, min(x, y, 86400), "x", "y"))
			wantSets(t, "of one data twice", row(in(a, free, x, "x"), in(a, free, y, "x")), set(a, free, min(x, y, 86400), "x"))
			wantSets(t, "of two sets", row(in(a, free, x, "x"), in(b, free, y, "x")), set(a, free, min(x, 86400), "x"), set(b, free, min(y, 86400), "x"))
			for _, z := range ttls {
				wantSets(t, "of three", row(in(a, free, x, "x"), in(a, free, y, "y"), in(a, free, z, "z")), set(a, free, min(x, y, z, 86400), "x", "y", "z"))
				wantSets(t, "of sets that stand mixed", row(in(a, free, x, "x"), in(b, free, y, "y"), in(a, free, z, "z")),
					set(a, free, min(x, z, 86400), "x", "z"), set(b, free, min(y, 86400), "y"))
			}
		}
	}
	for at := range 64 {
		rrs := make([]api.Rr, 64)
		for i := range rrs {
			rrs[i] = in(a, free, 100+(i*29+at)%64, "x")
		}
		rrs[at].Ttl = 99
		wantSets(t, fmt.Sprintf("at %d", at), rrs, set(a, free, 99, "x"))
	}
}

// Every row of up to five datas, of a few that are near each other: empty, the beginning of one another, with bytes above 127.
func TestEveryRowOfDatas(t *testing.T) {
	kinds := []string{"", "\x00", "a", "a\x00", "aa", "b", "\x7f", "\x80", "\xff", "\xff\x00"}
	rows := 1
	for size := range 6 {
		for x := range rows {
			rrs := make([]api.Rr, size)
			for i := range rrs {
				rrs[i] = in(nameOf("a"), free, 1, kinds[x%len(kinds)])
				x /= len(kinds)
			}
			got, e := sets.Group(rrs)
			if want, f := wantGroup(rrs); !sameSets(got, want) || e != f {
				t.Fatalf("P11.1: Group(%s) = %s, %d, want %s", tell(rrs), tell(got), e, tell(want))
			}
		}
		rows *= len(kinds)
	}
}

func TestDatas(t *testing.T) {
	n := nameOf("a")
	give := func(datas ...string) []api.Rr {
		var out []api.Rr
		for _, data := range datas {
			out = append(out, in(n, free, 1, data))
		}
		return out
	}
	wantSets(t, "rising", give("a", "b", "c", "d"), set(n, free, 1, "a", "b", "c", "d"))
	wantSets(t, "falling", give("d", "c", "b", "a"), set(n, free, 1, "a", "b", "c", "d"))
	wantSets(t, "twice in a row", give("b", "b", "a", "a"), set(n, free, 1, "a", "b"))
	wantSets(t, "twice, far from each other", give("b", "c", "a", "b"), set(n, free, 1, "a", "b", "c"))
	wantSets(t, "all one", give("b", "b", "b", "b", "b"), set(n, free, 1, "b"))
	wantSets(t, "empty", give(""), set(n, free, 1, ""))
	wantSets(t, "empty twice", give("", ""), set(n, free, 1, ""))
	wantSets(t, "empty behind others", give("a", "", "b", ""), set(n, free, 1, "", "a", "b"))
	wantSets(t, "beginnings", give("abc", "ab", "a", "abcd", "b"), set(n, free, 1, "a", "ab", "abc", "abcd", "b"))
	wantSets(t, "not by lengths", give("b", "aa", "c", "bbb"), set(n, free, 1, "aa", "b", "bbb", "c"))
	wantSets(t, "not by signs", give("\x80", "\x7f", "\xff", "\x00", "\x01"), set(n, free, 1, "\x00", "\x01", "\x7f", "\x80", "\xff"))
	wantSets(t, "not as runes", give("\xef\xbf\xbd", "\xf0\x90\x80\x80", "\xff", "\xc3\xa9", "z"), set(n, free, 1, "z", "\xc3\xa9", "\xef\xbf\xbd", "\xf0\x90\x80\x80", "\xff"))
	wantSets(t, "not folded", give("b", "A", "a", "B"), set(n, free, 1, "A", "B", "a", "b"))
	wantSets(t, "not as numbers", row(in(n, 15, 1, "\x00\x0a\x01b\x00"), in(n, 15, 1, "\x00\x09\x01c\x00"), in(n, 15, 1, "\x01\x00\x01a\x00")),
		set(n, 15, 1, "\x00\x09\x01c\x00", "\x00\x0a\x01b\x00", "\x01\x00\x01a\x00"))
	// Names within data rise by their bytes, not by layer 2's order.
	x, y, z := nameOf("b", "a"), nameOf("a", "b"), nameOf("aa")
	wantSets(t, "not as names", row(in(n, 2, 1, z), in(n, 2, 1, x), in(n, 2, 1, y)), set(n, 2, 1, y, x, z))
	long := strings.Repeat("x", 65534)
	wantSets(t, "long ones", give(long+"b", long, long+"a", long+"b"), set(n, free, 1, long, long+"a", long+"b"))
}

// All bytes, falling, in sets of as many as there can be.
func TestEveryByteAsData(t *testing.T) {
	for from := range 256 - 63 {
		rrs := make([]api.Rr, 64)
		want := make([]string, 64)
		for i := range rrs {
			want[i] = string([]byte{byte(from + i)})
			rrs[63-i] = in(nameOf("a"), free, 1, want[i])
		}
		wantSets(t, "falling", rrs, set(nameOf("a"), free, 1, want...))
	}
}

// The data of one set is none of another one's, be it the same.
func TestDatasOfSetsThatStandMixed(t *testing.T) {
	a, b := nameOf("a"), nameOf("b")
	wantSets(t, "mixed", row(in(a, free, 5, "y"), in(b, free, 9, "z"), in(a, other, 7, "y"), in(b, free, 8, "x"), in(a, free, 6, "x"), in(a, other, 4, "w"), in(b, free, 9, "x"), in(a, free, 9, "z")),
		set(a, free, 5, "x", "y", "z"), set(b, free, 8, "x", "z"), set(a, other, 4, "w", "y"))
	// Sets whose lists grow by turns.
	for _, count := range []int{2, 3, 4, 8, 16} {
		var rrs []api.Rr
		for i := range 64 {
			rrs = append(rrs, in(nameOf(fmt.Sprint(i%count)), free, 1000-i, string([]byte{byte(255 - i), byte(i)})))
		}
		got, _ := check(t, rrs)
		if len(got) != count {
			t.Errorf("P11.1: %d sets, want %d", len(got), count)
		}
	}
}

// Every row of up to four records out of those that differ in one field or in several, wrong ones among them.
func TestEveryShortRow(t *testing.T) {
	a := in(nameOf("a"), free, 5, "x")
	kinds := []api.Rr{
		a, in(nameOf("A"), free, 4, "x"), in(nameOf("a"), free, 6, "w"), in(nameOf("A"), free, 5, ""), in(nameOf("b"), free, 3, "x"), in(nameOf("a"), other, 2, "x"),
		of(3, a), of(0, in(nameOf("A"), free, 1, "v")), of(3, in(nameOf("c"), free, 0, "u")), in("", free, 5, "x"), of(3, in(nameOf("a"), 0, 5, "x")), in(nameOf("a"), 1, 5, "x"),
	}
	rows := 1
	for size := range 5 {
		for x := range rows {
			rrs := make([]api.Rr, size)
			for i := range rrs {
				rrs[i] = kinds[x%len(kinds)]
				x /= len(kinds)
			}
			check(t, rrs)
		}
		rows *= len(kinds)
	}
}

// someRrs gives fewer than most records out of few names, types and datas, so that sets have several; some of them are wrong.
func someRrs(r *rand.Rand, most int) []api.Rr {
	names := []string{root, nameOf("a"), nameOf("A"), nameOf("b", "a"), nameOf("B", "A"), nameOf("b", "A"), nameOf("a", "b"), nameOf("\xff\x00")}
	datas := []string{"", "a", "b", "ab", "\xff", "\x80\x00", "A"}
	hosts := []string{root, nameOf("a"), nameOf("A"), nameOf("ns", "b")}
	out := make([]api.Rr, r.Intn(most))
	for i := range out {
		x := api.Rr{Name: names[r.Intn(len(names))], Class: []int{1, 1, 1, 1, 0, 3}[r.Intn(6)], Ttl: r.Intn(1<<32) >> r.Intn(33)}
		switch x.Type = []int{1, 2, 15, 28, free, free, other, 65535}[r.Intn(8)]; x.Type {
		case 1:
			x.Data = string([]byte{192, 0, 2, byte(r.Intn(3))})
		case 2:
			x.Data = hosts[r.Intn(len(hosts))]
		case 15:
			x.Data = "\x00" + string([]byte{byte(r.Intn(3))}) + hosts[r.Intn(len(hosts))]
		case 28:
			x.Data = strings.Repeat(string([]byte{byte(r.Intn(3)) * 127}), 16)
		default:
			x.Data = datas[r.Intn(len(datas))]
		}
		out[i] = x
	}
	return out
}

// spoil makes one record wrong.
func spoil(r *rand.Rand, rrs []api.Rr) {
	x := &rrs[r.Intn(len(rrs))]
	switch r.Intn(5) {
	case 0:
		x.Name = noNames()[r.Intn(len(noNames()))]
	case 1:
		x.Type = []int{0, -1, 65536}[r.Intn(3)]
	case 2:
		x.Ttl = []int{-1, 1 << 32}[r.Intn(2)]
	case 3:
		x.Type, x.Data = 1, "abc"
	case 4:
		x.Type, x.Data = 2, x.Data+"\x00\x00"
	}
}

func TestSomeRecords(t *testing.T) {
	r := rand.New(rand.NewSource(11))
	seen := map[api.Errno]int{}
	most := 0
	for range 20000 {
		rrs := someRrs(r, []int{4, 12, 40, 66}[r.Intn(4)])
		if len(rrs) > 0 && r.Intn(4) == 0 {
			spoil(r, rrs)
		}
		got, e := check(t, rrs)
		seen[e]++
		for _, s := range got {
			most = max(most, len(s.Datas))
		}
	}
	if seen[api.OK] < 10000 || seen[api.ErrSetsForm] < 2000 || len(seen) != 2 || most < 6 {
		t.Errorf("not enough of each kind: %v, %d datas", seen, most)
	}
}

// Whatever the row of the records of class 1, the sets are those, but for their own row.
func TestOtherRows(t *testing.T) {
	r := rand.New(rand.NewSource(12))
	order := func(a, b api.Set) int {
		if c := strings.Compare(a.Name, b.Name); c != 0 {
			return c
		}
		return a.Type - b.Type
	}
	for range 2000 {
		rrs := someRrs(r, 40)
		one, _ := sets.Group(rrs)
		r.Shuffle(len(rrs), func(i, j int) { rrs[i], rrs[j] = rrs[j], rrs[i] })
		two, _ := sets.Group(rrs)
		slices.SortFunc(one, order)
		slices.SortFunc(two, order)
		if !sameSets(one, two) {
			t.Fatalf("P11.1: in another row: %s, %s", tell(one), tell(two))
		}
	}
}

// The same records give the same row of sets each time.
func TestOneAnswerEachTime(t *testing.T) {
	rrs := someRrs(rand.New(rand.NewSource(13)), 65)
	want, _ := sets.Group(rrs)
	for range 200 {
		if got, _ := sets.Group(rrs); !sameSets(got, want) {
			t.Fatalf("P11.1: %s, and %s", tell(want), tell(got))
		}
	}
}

func TestRrsOrdinary(t *testing.T) {
	n := nameOf("www", "example")
	for _, c := range []struct {
		what string
		s    api.Set
		want []api.Rr
	}{
		{"nothing at all", api.Set{}, nil},
		{"no data", set(n, 1, 60), nil},
		{"an empty list", api.Set{Name: n, Type: 1, Ttl: 60, Datas: []string{}}, nil},
		{"one", set(n, 1, 60, "abcd"), row(in(n, 1, 60, "abcd"))},
		{"one empty one", set(n, free, 60, ""), row(in(n, free, 60, ""))},
		{"several", set(n, 1, 60, "abcd", "abce", "abcf"), row(in(n, 1, 60, "abcd"), in(n, 1, 60, "abce"), in(n, 1, 60, "abcf"))},
		{"falling", set(n, 1, 60, "abcf", "abce", "abcd"), row(in(n, 1, 60, "abcf"), in(n, 1, 60, "abce"), in(n, 1, 60, "abcd"))},
		{"twice", set(n, free, 60, "b", "a", "b", "", ""), row(in(n, free, 60, "b"), in(n, free, 60, "a"), in(n, free, 60, "b"), in(n, free, 60, ""), in(n, free, 60, ""))},
	} {
		if got := sets.Rrs(c.s); !slices.Equal(got, c.want) {
			t.Errorf("P11.2: %s: %s, want %s", c.what, tell(got), tell(c.want))
		}
		checkRrs(t, c.s)
	}
}

// A set is told as it is, be it one that Group never gives.
func TestRrsOfAnySet(t *testing.T) {
	numbers := []int{0, 1, -1, 86400, 86401, 65535, 65536, 1 << 32, math.MinInt, math.MaxInt}
	names := append(noNames(), root, nameOf("WWW", "example"), nameOf("a"))
	for _, n := range names {
		for _, x := range numbers {
			checkRrs(t, set(n, x, 60, "abcd", "x", ""))
			checkRrs(t, set(n, 1, x, "abcd", "x", ""))
			checkRrs(t, set(n, x, x+1))
		}
	}
	long := make([]string, 1000)
	for i := range long {
		long[i] = fmt.Sprint(i * 7919 % 1000)
	}
	if got := checkRrs(t, set(nameOf("a"), free, 5, long...)); len(got) != 1000 {
		t.Errorf("P11.2: %d records of 1000", len(got))
	}
	for b := range 256 {
		checkRrs(t, set(nameOf("a"), free, 5, string([]byte{byte(b)}), string([]byte{byte(255 - b)})))
	}
}

// roomy gives the records in a list with room behind it, where others stand.
func roomy(rrs []api.Rr) []api.Rr {
	spare := row(in(nameOf("A"), free, 0, "behind"), of(3, in("no name", 0, -1, "behind")), in(nameOf("Z"), 1, 1, "abcd"))
	return append(slices.Clone(rrs), spare...)[:len(rrs)]
}

// What is handed in is as it was, and so is the room behind its list, of which nothing is told.
func TestArgumentsAreNotChanged(t *testing.T) {
	r := rand.New(rand.NewSource(14))
	for range 2000 {
		rrs := roomy(someRrs(r, 20))
		if len(rrs) > 0 && r.Intn(4) == 0 {
			spoil(r, rrs)
		}
		all := rrs[:cap(rrs)]
		was := slices.Clone(all)
		got, _ := check(t, rrs)
		if !slices.Equal(all, was) {
			t.Fatalf("R4: Group changed %s to %s", tell(was), tell(all))
		}
		for _, s := range got {
			room := append(slices.Clone(s.Datas), "behind", "", "a")
			kept := slices.Clone(room)
			s.Datas = room[:len(s.Datas)]
			checkRrs(t, s)
			if !slices.Equal(room, kept) {
				t.Fatalf("R4: Rrs changed %s to %s", tell(kept), tell(room))
			}
		}
	}
	full := slices.Repeat(row(in(nameOf("a"), 1, 1, "abcd")), 70)
	if got, e := sets.Group(full[:64]); len(got) != 1 || e != api.OK {
		t.Errorf("P11.1: 64 records with room behind: %s, %d", tell(got), e)
	}
}

// copyOf gives sets in memory of their own.
func copyOf(all []api.Set) []api.Set {
	out := slices.Clone(all)
	for i := range out {
		out[i].Datas = slices.Clone(out[i].Datas)
	}
	return out
}

// Writing over one list that was answered, and behind it, leaves all others as they were, and so does writing over what was handed in.
func TestListsOfTheirOwn(t *testing.T) {
	r := rand.New(rand.NewSource(15))
	for range 2000 {
		rrs := someRrs(r, 30)
		was := slices.Clone(rrs)
		one, _ := sets.Group(rrs)
		two, _ := sets.Group(rrs)
		want := copyOf(one)
		for i := range two {
			datas := two[i].Datas[:cap(two[i].Datas)]
			for j := range datas {
				datas[j] = "changed"
			}
			for k := range two {
				if k > i && !sameSet(two[k], want[k]) {
					t.Fatalf("R4: the datas of sets %d and %d share memory", i, k)
				}
			}
			two[i] = api.Set{}
		}
		if !slices.Equal(rrs, was) || !sameSets(one, want) {
			t.Fatalf("R4: writing over an answer: %s, %s", tell(rrs), tell(one))
		}
		clear(rrs)
		if !sameSets(one, want) {
			t.Fatalf("R4: writing over what was handed in: %s, want %s", tell(one), tell(want))
		}
		for i, s := range one {
			records, again := sets.Rrs(s), sets.Rrs(s)
			clear(records[:cap(records)])
			if !sameSet(s, want[i]) || !slices.Equal(again, wantRrs(want[i])) {
				t.Fatalf("R4: writing over a set's records: %s, %s", tell(s), tell(again))
			}
			clear(s.Datas)
			if !slices.Equal(again, wantRrs(want[i])) {
				t.Fatalf("R4: writing over a set's datas: %s", tell(again))
			}
		}
	}
}

// shares says whether two strings lie in one piece of memory; those of one byte, which the language keeps in one place for all, do not count.
func shares(a, b string) bool {
	if len(a) < 2 || len(b) < 2 {
		return false
	}
	from, to := uintptr(unsafe.Pointer(unsafe.StringData(a))), uintptr(unsafe.Pointer(unsafe.StringData(b)))
	return from < to+uintptr(len(b)) && to < from+uintptr(len(a))
}

// textsOf gives the texts of sets; textsOfRrs those of records.
func textsOf(all []api.Set) []string {
	var out []string
	for _, s := range all {
		out = append(out, s.Name)
		out = append(out, s.Datas...)
	}
	return out
}

func textsOfRrs(rrs []api.Rr) []string {
	var out []string
	for _, x := range rrs {
		out = append(out, x.Name, x.Data)
	}
	return out
}

// apart holds that no text of one list lies in the memory of one of another list.
func apart(t *testing.T, what string, lists ...[]string) {
	t.Helper()
	for i, one := range lists {
		for j, two := range lists[:i] {
			for _, a := range one {
				for _, b := range two {
					if shares(a, b) {
						t.Errorf("R4: %s: %q of list %d and %q of list %d share memory", what, a, i, b, j)
					}
				}
			}
		}
	}
}

// No text that is answered lies in the memory of what was handed in, nor in another answer's, nor in another set's.
func TestTextsOfTheirOwn(t *testing.T) {
	small, data := nameOf("small", "letters"), strings.Repeat("data", 10)
	rrs := row(in(small, free, 1, data), in(small, free, 1, data[1:]), in(small, other, 1, data), in(nameOf("b"), 2, 1, small), in(small, free, 1, data), in(small, 2, 1, small), in(root, free, 1, data[:5]))
	one, _ := sets.Group(rrs)
	two, _ := sets.Group(rrs)
	apart(t, "Group", textsOfRrs(rrs), textsOf(one), textsOf(two))
	for i := range one {
		apart(t, "two sets", textsOf(one[:i]), textsOf(one[i:]))
		first, second := sets.Rrs(one[i]), sets.Rrs(one[i])
		apart(t, "Rrs", textsOf(one), textsOfRrs(first), textsOfRrs(second))
	}
}

func TestSeveralGoroutines(t *testing.T) {
	shared := roomy(someRrs(rand.New(rand.NewSource(16)), 60))
	want, _ := wantGroup(shared)
	var all sync.WaitGroup
	for g := range 8 {
		all.Go(func() {
			r := rand.New(rand.NewSource(int64(g)))
			for range 500 {
				rrs := someRrs(r, 30)
				got, e := sets.Group(rrs)
				if w, f := wantGroup(rrs); !sameSets(got, w) || e != f {
					t.Errorf("P11.1: %s: %s, %d", tell(rrs), tell(got), e)
					return
				}
				if got, e := sets.Group(shared); !sameSets(got, want) || e != api.OK {
					t.Errorf("P11.1: %s, %d", tell(got), e)
					return
				}
				for _, s := range want {
					if got := sets.Rrs(s); !slices.Equal(got, wantRrs(s)) {
						t.Errorf("P11.2: %s: %s", tell(s), tell(got))
						return
					}
				}
			}
		})
	}
	all.Wait()
}

// What costs most: the most records of the longest names and datas that differ at their end alone, rows far too long, and a long set.
func TestItEndsSoon(t *testing.T) {
	began := time.Now()
	ones := strings.Repeat("\x01A", 127) + root
	most := make([]api.Rr, 64)
	for i := range most {
		most[i] = in(ones, free, 64-i, strings.Repeat("x", 65534)+string([]byte{byte(64 - i)}))
	}
	rows := slices.Repeat(row(in(ones, free, 1, "")), 1<<20)
	long := strings.Repeat("\x01a", 1<<20) + root
	for range 20 {
		if got, e := sets.Group(most); len(got) != 1 || len(got[0].Datas) != 64 || e != api.OK {
			t.Fatalf("P11.1: %d sets, %d", len(got), e)
		}
		wantForm(t, "a row far too long", rows)
		wantForm(t, "a name far too long", slices.Repeat(row(in(long, free, 1, "")), 64))
		wantForm(t, "a host far too long", slices.Repeat(row(in(ones, 2, 1, long)), 64))
		wantForm(t, "data far too long", slices.Repeat(row(in(ones, free, 1, long)), 64))
	}
	if got := sets.Rrs(set(long, free, 1, make([]string, 1<<20)...)); len(got) != 1<<20 {
		t.Errorf("P11.2: %d records", len(got))
	}
	if took := time.Since(began); took > 20*time.Second {
		t.Errorf("it took %v", took)
	}
}

func FuzzSets(f *testing.F) {
	f.Add(root, nameOf("a"), free, 1, 0, 1, "", "x", 3)
	f.Add(nameOf("WWW", "a"), nameOf("www", "A"), 1, 1, 60, 1<<32-1, "abcd", "\xff\x00\x00\x01", 1)
	f.Add("\x01a", root, 0, 65536, -1, 1<<32, strings.Repeat("x", 300), "\x00", 65)
	f.Add(nameOf("a"), nameOf("A"), 2, 2, 86400, 86401, nameOf("b"), nameOf("B"), 64)
	f.Fuzz(func(t *testing.T, m, n string, kind, more int, ttl, less int, data, text string, count int) {
		check(t, row(in(m, kind, ttl, data), in(n, more, less, text), in(n, kind, less, data), in(m, more, ttl, text)))
		check(t, row(in(m, kind, ttl, data), of(count, in(n, kind, less, text)), in(m, kind, less, text)))
		any, other := 50000+kind&1, 50000+more&1
		check(t, row(in(m, any, ttl&0xffffffff, data), in(n, other, less&0xffffffff, text), in(n, any, ttl&0xffff, text), of(count&3, in(m, other, 7, data)), in(m, other, 9, data)))
		check(t, slices.Repeat(row(in(m, kind, ttl, data)), count&127))
		checkRrs(t, set(m, kind, ttl, data, text, n, data))
	})
}
