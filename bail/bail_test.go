package bail_test

import (
	"fmt"
	"math"
	"math/rand"
	"slices"
	"strings"
	"sync"
	"testing"
	"time"
	"unsafe"

	"wimple/api"
	"wimple/bail"
	"wimple/wire"
)

const root = "\x00"

// nameOf gives the name of the labels.
func nameOf(labels ...string) string {
	out := ""
	for _, l := range labels {
		out += string([]byte{byte(len(l))}) + l
	}
	return out + root
}

// in gives a record of ClassIn, told from those of other names by its name alone.
func in(n string) api.Rr {
	return api.Rr{Name: n, Type: api.TypeA, Class: 1, Ttl: 60, Data: "abcd"}
}

// of gives x with another class; with x with other data.
func of(class int, x api.Rr) api.Rr {
	x.Class = class
	return x
}

func with(data string, x api.Rr) api.Rr {
	x.Data = data
	return x
}

// row gives a list of the records.
func row(rrs ...api.Rr) []api.Rr {
	return rrs
}

// top is a header each of whose fields is told from the others.
var top = api.Head{Id: 4660, Qr: true, Op: 2, Aa: true, Ra: true, Z: 5, Rcode: 3}

// asked gives questions that a cut may have nothing to do with.
func asked() []api.Question {
	return []api.Question{{Name: nameOf("www", "Example"), Type: api.TypeA, Class: 1}, {Name: nameOf("else"), Type: api.TypeAny, Class: 3}, {Name: "no name", Type: -1, Class: 1 << 40}}
}

// msg gives a message of the three parts.
func msg(an, ns, ar []api.Rr) api.Msg {
	return api.Msg{Head: top, Qs: asked(), An: an, Ns: ns, Ar: ar}
}

// tell shortens what is told.
func tell(x any) string {
	s := fmt.Sprintf("%+q", fmt.Sprintf("%+v", x))
	if len(s) > 900 {
		return s[:900] + ".."
	}
	return s
}

// same says whether two messages are, an empty list and nil being one.
func same(a, b api.Msg) bool {
	return a.Head == b.Head && slices.Equal(a.Qs, b.Qs) && slices.Equal(a.An, b.An) && slices.Equal(a.Ns, b.Ns) && slices.Equal(a.Ar, b.Ar)
}

// isZero says whether a message is the zero value.
func isZero(m api.Msg) bool {
	return m.Head == api.Head{} && len(m.Qs) == 0 && len(m.An) == 0 && len(m.Ns) == 0 && len(m.Ar) == 0
}

// whole gives m with its lists lengthened over the room behind them.
func whole(m api.Msg) api.Msg {
	return api.Msg{Head: m.Head, Qs: m.Qs[:cap(m.Qs)], An: m.An[:cap(m.An)], Ns: m.Ns[:cap(m.Ns)], Ar: m.Ar[:cap(m.Ar)]}
}

// copyOf gives m with lists of their own, without the room behind them.
func copyOf(m api.Msg) api.Msg {
	return api.Msg{Head: m.Head, Qs: slices.Clone(m.Qs), An: slices.Clone(m.An), Ns: slices.Clone(m.Ns), Ar: slices.Clone(m.Ar)}
}

// mayName is chapter 1's head.
func mayName(n string) bool {
	size := len(n)
	for n != "" && n[0] >= 1 && n[0] <= 63 && len(n) > int(n[0]) {
		n = n[1+n[0]:]
	}
	return n == root && size <= 255
}

// folded is chapter 2's head: no length of a label is as great as a letter.
func folded(n string) string {
	out := []byte(n)
	for i, c := range out {
		if c >= 65 && c <= 90 {
			out[i] = c + 32
		}
	}
	return string(out)
}

// isAbove is chapter 2's head: it takes one label after the other off the name n.
func isAbove(cut, n string) bool {
	for n != root {
		if folded(n) == folded(cut) {
			return true
		}
		n = n[1+n[0]:]
	}
	return cut == root
}

// wantRrs gives those records that P12.1 keeps, gone through from the last one on.
func wantRrs(cut string, rrs []api.Rr) []api.Rr {
	var out []api.Rr
	for i := len(rrs) - 1; i >= 0; i-- {
		if rrs[i].Class == 1 && mayName(rrs[i].Name) && isAbove(cut, rrs[i].Name) {
			out = append(row(rrs[i]), out...)
		}
	}
	return out
}

// wantFilter is P12.1.
func wantFilter(m api.Msg, cut string) (api.Msg, api.Errno) {
	if !mayName(cut) {
		return api.Msg{}, api.ErrBailForm
	}
	return api.Msg{Head: m.Head, Qs: m.Qs, An: wantRrs(cut, m.An), Ns: wantRrs(cut, m.Ns), Ar: wantRrs(cut, m.Ar)}, api.OK
}

// check holds Filter against P12.1, and what it gives against it again; nor may it change m, or the room behind its lists.
func check(t *testing.T, m api.Msg, cut string) api.Msg {
	t.Helper()
	was := copyOf(whole(m))
	got, e := bail.Filter(m, cut)
	if want, f := wantFilter(m, cut); !same(got, want) || e != f {
		t.Fatalf("P12.1: Filter(%s, %q) = %s, %d, want %s, %d", tell(m), cut, tell(got), e, tell(want), f)
	}
	if !same(whole(m), was) {
		t.Fatalf("R4: Filter(_, %q) changed %s to %s", cut, tell(was), tell(whole(m)))
	}
	if e != api.OK {
		return got
	}
	if again, f := bail.Filter(got, cut); !same(again, got) || f != api.OK {
		t.Fatalf("P12.1: %s, filtered by %q twice: %s, %d", tell(m), cut, tell(again), f)
	}
	return got
}

// wantKept holds Filter against records that are written out, the same ones in each part alone, and in all of them.
func wantKept(t *testing.T, what string, cut string, rrs []api.Rr, want ...api.Rr) {
	t.Helper()
	for _, c := range []struct{ m, want api.Msg }{
		{msg(rrs, nil, nil), msg(want, nil, nil)},
		{msg(nil, rrs, nil), msg(nil, want, nil)},
		{msg(nil, nil, rrs), msg(nil, nil, want)},
		{msg(rrs, rrs, rrs), msg(want, want, want)},
	} {
		if got, e := bail.Filter(c.m, cut); !same(got, c.want) || e != api.OK {
			t.Errorf("P12.1: %s: Filter(%s, %q) = %s, %d", what, tell(c.m), cut, tell(got), e)
		}
		check(t, c.m, cut)
	}
}

func TestOrdinaryMessages(t *testing.T) {
	zone, ns, www, elsewhere := nameOf("example"), nameOf("ns", "example"), nameOf("www", "example"), nameOf("ns", "elsewhere")
	cname := api.Rr{Name: www, Type: api.TypeCname, Class: 1, Ttl: 60, Data: elsewhere}
	auth := api.Rr{Name: zone, Type: api.TypeNs, Class: 1, Ttl: 3600, Data: ns}
	more := api.Rr{Name: zone, Type: api.TypeNs, Class: 1, Ttl: 3600, Data: elsewhere}
	glue := api.Rr{Name: ns, Type: api.TypeA, Class: 1, Ttl: 3600, Data: "\xc0\x00\x02\x01"}
	foreign := api.Rr{Name: elsewhere, Type: api.TypeA, Class: 1, Ttl: 3600, Data: "\xc0\x00\x02\x02"}
	edns := api.Rr{Name: root, Type: api.TypeOpt, Class: 1232}
	m := msg(row(cname, foreign), row(auth, more), row(foreign, glue, edns))
	for _, c := range []struct {
		cut  string
		want api.Msg
	}{
		{zone, msg(row(cname), row(auth, more), row(glue))},
		{root, msg(row(cname, foreign), row(auth, more), row(foreign, glue))},
		{ns, msg(nil, nil, row(glue))},
		{www, msg(row(cname), nil, nil)},
		{elsewhere, msg(row(foreign), nil, row(foreign))},
		{nameOf("elsewhere"), msg(row(foreign), nil, row(foreign))},
		{nameOf("com"), msg(nil, nil, nil)},
		{nameOf("a", "www", "example"), msg(nil, nil, nil)},
		{nameOf("EXAMPLE"), msg(row(cname), row(auth, more), row(glue))},
	} {
		if got, e := bail.Filter(m, c.cut); !same(got, c.want) || e != api.OK {
			t.Errorf("P12.1: the cut %q: %s, %d, want %s", c.cut, tell(got), e, tell(c.want))
		}
		check(t, m, c.cut)
	}
}

// noNames gives bytes of all kinds that are no name.
func noNames() []string {
	long := strings.Repeat("a", 63)
	return []string{
		"", "a", "com", ".", "com.", "\x01", "\x01a", "\x02a\x00", "\x3f\x00", "\x00\x00", "\x00\x01a\x00", "\x01a\x00\x00", "\x01a\x00b", "\xc0\x0c", "\x01a\xc0\x00", "\xff\x00",
		"\x40" + long + "a\x00", nameOf(long, long, long, long[:62]), strings.Repeat("\x01a", 128) + root, strings.Repeat("\x00", 256), strings.Repeat("\x00", 1<<16), strings.Repeat("\x01a", 1<<16) + root,
	}
}

// A cut that is no name is refused whatever the message is, also one with records of just that name, and beside the error nothing is told.
func TestCutIsNoName(t *testing.T) {
	if api.ErrBailForm != 1200 {
		t.Fatalf("ErrBailForm is %d", api.ErrBailForm)
	}
	a := row(in(nameOf("a")))
	for _, cut := range noNames() {
		own := row(in(cut), in("\x01x"+cut), in(nameOf("a")), in(root))
		for _, m := range []api.Msg{{}, {Head: top}, {Qs: asked()}, msg(nil, nil, nil), msg(a, nil, nil), msg(nil, a, nil), msg(nil, nil, a), msg(own, own, own)} {
			if got, e := bail.Filter(m, cut); !isZero(got) || e != api.ErrBailForm {
				t.Errorf("P12.1: the cut %q: %s, %d", cut, tell(got), e)
			}
			check(t, m, cut)
		}
	}
}

// longNames gives names that are as long as may be, and such ones with other bytes than letters.
func longNames() []string {
	long := strings.Repeat("A", 63)
	return []string{
		nameOf(long), nameOf(long, long, long, long[:61]), strings.Repeat("\x01A", 127) + root, nameOf("\x00"), nameOf("\x00", "\x00\x00"), nameOf("\xff\xc0.\\"), nameOf("\x01a\x00", "b"), nameOf("\xc0\x0c"),
	}
}

// The root is above every name, and above nothing else.
func TestRootAsCut(t *testing.T) {
	good := slices.Concat([]string{root, nameOf("a"), nameOf("A", "b"), nameOf("a", "a", "a")}, longNames())
	var all, want []api.Rr
	for i, n := range good {
		wantKept(t, "a name", root, row(in(n)), in(n))
		all = append(all, in(n), of(3, in(n)), in(noNames()[i]))
		want = append(want, in(n))
	}
	wantKept(t, "all names, and others", root, all, want...)
	for _, n := range noNames() {
		wantKept(t, "no name", root, row(in(n)))
	}
}

// A name that may be, of whatever bytes, is a cut as all others.
func TestLongNames(t *testing.T) {
	for _, n := range longNames() {
		wantKept(t, "itself", n, row(in(root), in(n), in(nameOf("b")), in(folded(n))), in(n), in(folded(n)))
		up := n[1+n[0]:]
		if up != root {
			wantKept(t, "its parent", up, row(in(n), in(up), in(root)), in(n), in(up))
		}
	}
}

func TestRelations(t *testing.T) {
	n := nameOf("b", "c")
	for _, c := range []struct {
		what string
		cut  string
		kept bool
	}{
		{"itself", nameOf("b", "c"), true},
		{"itself in the other case", nameOf("B", "C"), true},
		{"itself in another case", nameOf("b", "C"), true},
		{"its parent", nameOf("c"), true},
		{"its parent in the other case", nameOf("C"), true},
		{"the root", root, true},
		{"its child", nameOf("a", "b", "c"), false},
		{"its child's child", nameOf("a", "a", "b", "c"), false},
		{"its child of its own label", nameOf("b", "b", "c"), false},
		{"a name beside it", nameOf("a", "c"), false},
		{"a name beside its parent", nameOf("d"), false},
		{"its first label", nameOf("b"), false},
		{"itself turned round", nameOf("c", "b"), false},
		{"under another parent", nameOf("b", "d"), false},
		{"a longer label", nameOf("bb", "c"), false},
		{"a longer label of the same beginning", nameOf("c\x00"), false},
		{"one label of its bytes", nameOf("b\x01c"), false},
		{"one label of its text", nameOf("b.c"), false},
	} {
		var want []api.Rr
		if c.kept {
			want = row(in(n))
		}
		wantKept(t, c.what, c.cut, row(in(n)), want...)
	}
}

// A record's name whose bytes end as the cut's do is not below it, unless its labels do.
func TestEndsThatAreNoLabels(t *testing.T) {
	cut := nameOf("com")
	for _, n := range []string{nameOf("x\x03com"), nameOf("a", "x\x03com"), nameOf("xcom"), nameOf("x.com"), nameOf("\x03com"), nameOf("c", "om"), nameOf("co", "m"), nameOf("com", "m"), nameOf("com", "x")} {
		wantKept(t, "a label's end", cut, row(in(n)))
	}
	for _, n := range []string{nameOf("x", "com"), nameOf("x\x03com", "com"), nameOf("com", "com"), nameOf("\x00", "com"), nameOf("\x03com\x00", "com"), nameOf("X", "cOm")} {
		wantKept(t, "labels", cut, row(in(n)), in(n))
	}
	for _, n := range []string{nameOf("\x00"), nameOf("a\x00"), nameOf("\x01a\x00")} {
		wantKept(t, "a label that is like the cut", nameOf("a"), row(in(n)))
	}
}

// What is no name is not kept, also where its end is the cut, or where it is a name but for its end or length.
func TestRecordNameIsNone(t *testing.T) {
	long := strings.Repeat("a", 63)
	for _, cut := range []string{root, nameOf("a"), nameOf("com"), nameOf(long, long), nameOf(long, long, long, long[:61])} {
		good := in(cut)
		wrong := slices.Concat(noNames(), []string{
			"\x00" + cut, "x" + cut, "\x40" + cut, "\x80" + cut, "\xc0" + cut, "\xff" + cut, "\x40" + long + "a" + cut, "\x3f" + cut, "\x00\x01a" + cut, "\x02" + cut[:1] + cut[:len(cut)-1],
			cut + "\x00", cut + "a", cut + cut, "\x01b" + cut + "\x00", cut[:len(cut)-1], cut[:len(cut)-1] + "\xc0\x00", strings.Repeat("\x01a", (256-len(cut)+1)/2) + cut, strings.Repeat("\x01a", 1<<12) + cut,
		})
		for _, n := range wrong {
			if mayName(n) {
				t.Fatalf("%q is a name", n)
			}
			wantKept(t, "no name", cut, row(in(n)))
			wantKept(t, "no name first", cut, row(in(n), good), good)
			wantKept(t, "no name last", cut, row(good, in(n)), good)
			wantKept(t, "no name between", cut, row(good, in(n), good), good, good)
		}
	}
	// The longest that may be, and one byte more.
	cut := nameOf(long, long, long)
	wantKept(t, "255 bytes", cut, row(in(nameOf(long[:61])[:62]+cut)), in(nameOf(long[:61])[:62]+cut))
	wantKept(t, "256 bytes", cut, row(in(nameOf(long[:62])[:63]+cut)))
}

// Every number that a class may be, and some that none may be and would be ClassIn if their higher bits, or their sign, were let go.
func TestEveryClass(t *testing.T) {
	if api.ClassIn != 1 {
		t.Fatalf("ClassIn is %d", api.ClassIn)
	}
	classes := []int{math.MinInt, math.MinInt + 1, math.MaxInt, -1, -2, -65535, ^1}
	for i := 1; i < 63; i++ {
		classes = append(classes, 1<<i, 1<<i+1, 1-1<<i, -1<<i)
	}
	for class := range 1 << 16 {
		classes = append(classes, class)
	}
	own := in(nameOf("a", "b"))
	for _, class := range classes {
		if class == 1 {
			continue
		}
		other := of(class, own)
		m, want := msg(row(other), row(own, other), row(other, own, other)), msg(nil, row(own), row(own))
		for _, cut := range []string{nameOf("a", "b"), nameOf("b"), root} {
			if got, e := bail.Filter(m, cut); !same(got, want) || e != api.OK {
				t.Fatalf("P12.1: the class %d, the cut %q: %s, %d", class, cut, tell(got), e)
			}
		}
	}
}

// Records of another class alone, and among those of ClassIn, at each place.
func TestOtherClasses(t *testing.T) {
	cut, one, two := nameOf("b"), in(nameOf("a", "b")), with("wxyz", in(nameOf("b")))
	for _, class := range []int{0, 3, 4, 254, 255, 65537} {
		other, alike := of(class, in(nameOf("c", "b"))), of(class, one)
		wantKept(t, "alone", cut, row(other))
		wantKept(t, "several", cut, row(other, alike, other))
		wantKept(t, "first", cut, row(other, one, two), one, two)
		wantKept(t, "between", cut, row(one, other, two), one, two)
		wantKept(t, "last", cut, row(two, one, other), two, one)
		wantKept(t, "everywhere", cut, row(alike, one, alike, other, two, alike), one, two)
		wantKept(t, "no name, another class", cut, row(of(class, in("\x01a")), one), one)
		wantKept(t, "beside the cut, another class", cut, row(one, of(class, in(nameOf("c")))), one)
	}
}

// kinds gives records that are kept by the cut b., and others; no two are one.
func kinds() []api.Rr {
	return row(in(nameOf("a", "b")), with("", in(nameOf("B"))), in(nameOf("a")), of(3, in(nameOf("a", "b"))), in("\x01\x01b\x00"))
}

// rowsOf gives every row of up to most of those records.
func rowsOf(rrs []api.Rr, most int) [][]api.Rr {
	rows := [][]api.Rr{nil}
	last := rows
	for range most {
		var longer [][]api.Rr
		for _, r := range last {
			for _, x := range rrs {
				longer = append(longer, append(slices.Clone(r), x))
			}
		}
		rows, last = append(rows, longer...), longer
	}
	return rows
}

// Every row of up to five records, in each part, and every three rows of up to two.
func TestEveryShortRow(t *testing.T) {
	cut := nameOf("b")
	one, other := row(kinds()[0], kinds()[2]), row(kinds()[3], kinds()[1])
	for _, r := range rowsOf(kinds(), 5) {
		check(t, msg(r, one, other), cut)
		check(t, msg(other, r, one), cut)
		check(t, msg(one, other, r), cut)
	}
	short := rowsOf(kinds(), 2)
	for _, an := range short {
		for _, ns := range short {
			for _, ar := range short {
				check(t, msg(an, ns, ar), cut)
			}
		}
	}
}

// Each part has what it had: none, one and several kept, with none and some let go, and their row stands.
func TestPartsAndRows(t *testing.T) {
	cut := nameOf("b")
	var all, mixed []api.Rr
	for i := range 7 {
		x := with(fmt.Sprint(9-i), in(nameOf("a", "b")))
		x.Ttl, x.Type = 100*(i%3), []int{15, 1, 2}[i%3]
		all, mixed = append(all, x), append(mixed, x, in(nameOf("c")), of(4, x))
	}
	wantKept(t, "all of several", cut, all, all...)
	wantKept(t, "some of several", cut, mixed, all...)
	wantKept(t, "one", cut, all[:1], all[0])
	wantKept(t, "one of several", cut, row(kinds()[2], all[3], kinds()[3]), all[3])
	wantKept(t, "none of one", cut, row(in(nameOf("c"))))
	wantKept(t, "none of several", cut, row(in(nameOf("c")), in(root), of(2, all[0]), in("")))
	wantKept(t, "nil", cut, nil)
	wantKept(t, "an empty list", cut, row())
	wantKept(t, "an empty list with room", cut, make([]api.Rr, 0, 9))
	wantKept(t, "the same one several times", cut, slices.Repeat(row(all[2]), 5), slices.Repeat(row(all[2]), 5)...)
	got := check(t, msg(all[:2], all[2:4], all[4:]), cut)
	if !same(got, msg(all[:2], all[2:4], all[4:])) {
		t.Errorf("P12.1: each part its own: %s", tell(got))
	}
}

// More records and questions than a message may have are not refused.
func TestHowMany(t *testing.T) {
	cut, good, wrong := nameOf("b"), in(nameOf("a", "b")), in(nameOf("a"))
	for _, count := range []int{1, 2, 63, 64, 65, 66, 128, 256, 1000} {
		m := msg(slices.Repeat(row(good), count), slices.Repeat(row(wrong), count), slices.Repeat(row(good, wrong), count))
		m.Qs = slices.Repeat(asked(), count)
		got := check(t, m, cut)
		if len(got.Qs) != 3*count || len(got.An) != count || len(got.Ns) != 0 || len(got.Ar) != count {
			t.Errorf("P12.1: %d of each: %d, %d, %d, %d", count, len(got.Qs), len(got.An), len(got.Ns), len(got.Ar))
		}
	}
}

// numbers gives some that a field may have, and others.
func numbers() []int {
	return []int{0, 1, 2, 3, 15, 16, 41, 255, 256, 65535, 65536, 65537, 86401, 1<<32 - 1, 1 << 32, -1, -2, math.MinInt, math.MaxInt}
}

// The header stays, whatever it says, alone and beside records of all kinds.
func TestHeader(t *testing.T) {
	heads := []api.Head{{}, {Qr: true}, {Aa: true}, {Tc: true}, {Rd: true}, {Ra: true}, top}
	for _, x := range numbers() {
		heads = append(heads, api.Head{Id: x}, api.Head{Op: x}, api.Head{Z: x}, api.Head{Rcode: x}, api.Head{Id: x, Qr: true, Op: x + 1, Aa: true, Tc: true, Rd: true, Ra: true, Z: x + 2, Rcode: x + 3})
	}
	for _, h := range heads {
		for _, rrs := range [][]api.Rr{nil, kinds(), kinds()[:1], kinds()[2:]} {
			m := msg(rrs, rrs, rrs)
			m.Head = h
			for _, cut := range []string{root, nameOf("b"), nameOf("x")} {
				if got := check(t, m, cut); got.Head != h {
					t.Fatalf("P12.1: the header %s became %s", tell(h), tell(got.Head))
				}
			}
		}
	}
}

// The questions stay, whatever they ask: of no class and no name too, and nowhere below the cut.
func TestQuestions(t *testing.T) {
	names := slices.Concat(noNames(), longNames(), []string{root, nameOf("b"), nameOf("a", "b"), nameOf("B"), nameOf("c")})
	var all []api.Question
	for i, n := range names {
		all = append(all, api.Question{Name: n, Type: numbers()[i%len(numbers())], Class: 1}, api.Question{Name: n, Type: 1, Class: numbers()[(i+1)%len(numbers())]})
	}
	lists := [][]api.Question{nil, {}, all, {all[0], all[0]}, make([]api.Question, 3), make([]api.Question, 0, 3)}
	for i := range all {
		lists = append(lists, all[i:i+1])
	}
	for _, qs := range lists {
		for _, rrs := range [][]api.Rr{nil, kinds(), kinds()[2:]} {
			m := msg(nil, rrs, rrs)
			m.Qs = qs
			for _, cut := range []string{root, nameOf("b"), nameOf("x")} {
				if got := check(t, m, cut); !slices.Equal(got.Qs, qs) {
					t.Fatalf("P12.1: the questions %s became %s", tell(qs), tell(got.Qs))
				}
			}
		}
	}
}

// Of a record its class and name are looked at alone: all else may be wrong, and stays.
func TestOtherFieldsOfRecords(t *testing.T) {
	cut := nameOf("b")
	datas := []string{"", "a", "abcd", root, nameOf("x"), "\x01", "\xc0\x00", strings.Repeat("\x00", 65535), strings.Repeat("x", 1<<17)}
	for b := range 256 {
		datas = append(datas, string([]byte{byte(b)}))
	}
	types := slices.Concat(numbers(), []int{5, 6, 12, 28})
	for i, data := range datas {
		for _, kind := range types {
			x := api.Rr{Name: nameOf("A", "b"), Type: kind, Class: 1, Ttl: types[i%len(types)], Data: data}
			y := x
			y.Name = nameOf("c")
			m := msg(row(x, y), row(y, x), row(y))
			if got, e := bail.Filter(m, cut); !same(got, msg(row(x), row(x), nil)) || e != api.OK {
				t.Fatalf("P12.1: %s: %s, %d", tell(x), tell(got), e)
			}
		}
	}
	for _, ttl := range numbers() {
		for _, kind := range types {
			x := api.Rr{Name: nameOf("A", "b"), Type: kind, Class: 1, Ttl: ttl}
			wantKept(t, "a Ttl and a type", cut, row(x, of(3, x)), x)
		}
	}
	wantKept(t, "a name within data", cut, row(api.Rr{Name: nameOf("c"), Type: 2, Class: 1, Data: nameOf("a", "b")}))
	x := api.Rr{Name: nameOf("b"), Type: 2, Class: 1, Data: nameOf("a", "c")}
	wantKept(t, "a name of elsewhere within data", cut, row(x), x)
}

// The name of a record stays in its case, whatever the cut's case is.
func TestCaseStays(t *testing.T) {
	for _, cut := range []string{nameOf("com"), nameOf("COM"), nameOf("cOm")} {
		rrs := row(in(nameOf("WWW", "com")), in(nameOf("www", "COM")), in(nameOf("Com")), in(nameOf("wWw", "cOm")))
		wantKept(t, "in some case", cut, rrs, rrs...)
	}
}

// Of each two bytes: letters in both cases are one, and no others are.
func TestEachPairOfBytes(t *testing.T) {
	for a := range 256 {
		cut := nameOf("x"+string([]byte{byte(a)}), "y")
		var rrs []api.Rr
		for b := range 256 {
			label := "x" + string([]byte{byte(b)})
			rrs = append(rrs, in(nameOf(label, "y")), in(nameOf("z", label, "y")))
		}
		got := check(t, msg(rrs, nil, rrs), cut)
		want := 2
		if c := byte(a) | 32; c >= 'a' && c <= 'z' && a < 128 {
			want = 4
		}
		if len(got.An) != want || len(got.Ar) != want {
			t.Fatalf("P12.1: the byte %d: %d and %d records", a, len(got.An), len(got.Ar))
		}
	}
}

// Each two of the names of up to three labels out of some that are near each other.
func TestEachPairOfNames(t *testing.T) {
	labels := []string{"a", "A", "b", "ab", "a\x01b"}
	names, last := []string{root}, []string{root}
	for range 3 {
		var longer []string
		for _, n := range last {
			for _, l := range labels {
				longer = append(longer, nameOf(l)[:1+len(l)]+n)
			}
		}
		names, last = append(names, longer...), longer
	}
	var all []api.Rr
	for _, n := range names {
		all = append(all, in(n))
	}
	for _, cut := range names {
		check(t, msg(all, all[:len(all)/2], all[len(all)/2:]), cut)
	}
}

// someName gives a name of few labels, now and then bytes that are none.
func someName(r *rand.Rand) string {
	if r.Intn(12) == 0 {
		return []string{"", "a", "\x01", "\x00\x00", "\x00\x01a\x00", "\x01a\x00\x00", "\x02a\x00", "\xc0\x00", "\x40\x01b\x00"}[r.Intn(9)]
	}
	var labels []string
	for range r.Intn(4) {
		labels = append(labels, []string{"a", "A", "b", "ab", "\x00", "com"}[r.Intn(6)])
	}
	return nameOf(labels...)
}

// someRrs gives up to most records.
func someRrs(r *rand.Rand, most int) []api.Rr {
	var out []api.Rr
	for range r.Intn(most + 1) {
		data := make([]byte, r.Intn(9))
		r.Read(data)
		out = append(out, api.Rr{Name: someName(r), Type: r.Intn(300) - 1, Class: []int{1, 1, 1, 3, 0, r.Intn(4)}[r.Intn(6)], Ttl: r.Intn(1<<33) - 9, Data: string(data)})
	}
	return out
}

// someMsg gives a message of such records.
func someMsg(r *rand.Rand, most int) api.Msg {
	m := api.Msg{Head: api.Head{Id: r.Intn(1 << 16), Qr: r.Intn(2) == 0, Aa: r.Intn(2) == 0, Rcode: r.Intn(16)}, An: someRrs(r, most), Ns: someRrs(r, most), Ar: someRrs(r, most)}
	for range r.Intn(3) {
		m.Qs = append(m.Qs, api.Question{Name: someName(r), Type: r.Intn(300), Class: r.Intn(4)})
	}
	return m
}

func TestSomeMessages(t *testing.T) {
	r := rand.New(rand.NewSource(12))
	kept, gone, refused := 0, 0, 0
	for range 30000 {
		m, cut := someMsg(r, 8), someName(r)
		got := check(t, m, cut)
		if !mayName(cut) {
			refused++
			continue
		}
		kept += len(got.An) + len(got.Ns) + len(got.Ar)
		gone += len(m.An) + len(m.Ns) + len(m.Ar) - len(got.An) - len(got.Ns) - len(got.Ar)
	}
	if kept < 30000 || gone < 30000 || refused < 1000 {
		t.Errorf("not enough of each kind: %d, %d, %d", kept, gone, refused)
	}
}

// What is read from bytes is filtered, and what is left may be put again.
func TestThroughBytes(t *testing.T) {
	zone := nameOf("example")
	m := api.Msg{Head: top, Qs: []api.Question{{Name: nameOf("www", "example"), Type: 1, Class: 1}}}
	m.An = row(in(nameOf("www", "example")), in(nameOf("bank", "test")))
	m.Ns = row(api.Rr{Name: nameOf("test"), Type: api.TypeNs, Class: 1, Data: nameOf("ns", "example")})
	m.Ar = row(in(nameOf("NS", "Example")), api.Rr{Name: root, Type: api.TypeOpt, Class: api.Payload})
	b, e := wire.Put(m)
	if e != api.OK {
		t.Fatalf("Put: %d", e)
	}
	told, e := wire.Get(b)
	if e != api.OK {
		t.Fatalf("Get: %d", e)
	}
	left := check(t, told, zone)
	if b, e = wire.Put(left); e != api.OK {
		t.Fatalf("P12.1: what is left can't be put: %d", e)
	}
	want := api.Msg{Head: m.Head, Qs: m.Qs, An: m.An[:1], Ar: m.Ar[:1]}
	if back, e := wire.Get(b); !same(back, want) || e != api.OK {
		t.Errorf("P12.1: %s, %d, want %s", tell(back), e, tell(want))
	}
}

// roomy gives m with lists of their own that have room behind them, in which records stand that would be kept.
func roomy(m api.Msg) api.Msg {
	behind := func(rrs []api.Rr) []api.Rr {
		all := slices.Concat(rrs, kinds(), kinds())
		return all[:len(rrs)]
	}
	return api.Msg{Head: m.Head, Qs: slices.Concat(m.Qs, asked())[:len(m.Qs)], An: behind(m.An), Ns: behind(m.Ns), Ar: behind(m.Ar)}
}

// What is handed in is as it was, and so is the room behind its lists, though they be pieces of one.
func TestArgumentsAreNotChanged(t *testing.T) {
	r := rand.New(rand.NewSource(13))
	for range 3000 {
		m := roomy(someMsg(r, 6))
		for _, cut := range []string{root, nameOf("b"), nameOf("a", "b"), nameOf("x"), "\x01"} {
			check(t, m, cut)
		}
	}
	all := slices.Concat(kinds(), kinds(), kinds())
	was := slices.Clone(all)
	for from := range all {
		for to := from; to <= len(all); to++ {
			m := msg(all[:from], all[from:to], all[to:])
			check(t, m, nameOf("b"))
			check(t, msg(all[from:to], all[from:to], all[:to]), nameOf("b"))
			if !slices.Equal(all, was) {
				t.Fatalf("R4: %d to %d: %s", from, to, tell(all))
			}
		}
	}
}

// writeOver changes the lists of m, and all the room behind them.
func writeOver(m api.Msg) {
	clear(m.Qs[:cap(m.Qs)])
	for _, rrs := range [][]api.Rr{m.An, m.Ns, m.Ar} {
		clear(rrs[:cap(rrs)])
	}
}

// Writing over what was handed in leaves what was answered as it was, and the other way round.
func TestListsOfTheirOwn(t *testing.T) {
	r := rand.New(rand.NewSource(14))
	for range 3000 {
		m := roomy(someMsg(r, 6))
		for _, cut := range []string{root, nameOf("b"), nameOf("x")} {
			was := copyOf(m)
			want, _ := wantFilter(was, cut)
			one, _ := bail.Filter(m, cut)
			two, _ := bail.Filter(m, cut)
			three, _ := bail.Filter(two, cut)
			writeOver(one)
			if !same(m, was) || !same(two, want) {
				t.Fatalf("R4: writing over an answer: %s, %s", tell(m), tell(two))
			}
			writeOver(three)
			if !same(two, want) {
				t.Fatalf("R4: writing over what was filtered twice: %s", tell(two))
			}
			mine := copyOf(m)
			four, _ := bail.Filter(mine, cut)
			writeOver(mine)
			if !same(four, want) {
				t.Fatalf("R4: writing over what was handed in: %s, want %s", tell(four), tell(want))
			}
		}
	}
}

// The lists of one answer share nothing, though those that were handed in be one; nor does appending to one reach another.
func TestPartsShareNothing(t *testing.T) {
	for _, rrs := range [][]api.Rr{kinds(), kinds()[:1], kinds()[:2], kinds()[2:], slices.Repeat(kinds(), 5)} {
		for _, cut := range []string{root, nameOf("b"), nameOf("a")} {
			want := wantRrs(cut, rrs)
			for part := range 3 {
				got, _ := bail.Filter(msg(rrs, rrs, rrs), cut)
				parts := []*[]api.Rr{&got.An, &got.Ns, &got.Ar}
				mine := *parts[part]
				clear(mine[:cap(mine)])
				_ = append(mine, in("more"))
				*parts[part] = want
				if !same(got, msg(want, want, want)) {
					t.Fatalf("R4: part %d of %s shares memory", part, tell(got))
				}
			}
		}
	}
}

// shares says whether two strings lie in one piece of memory; those of one byte, which the language keeps in one place for all, do not count.
func shares(a, b string) bool {
	if len(a) < 2 || len(b) < 2 {
		return false
	}
	from, to := uintptr(unsafe.Pointer(unsafe.StringData(a))), uintptr(unsafe.Pointer(unsafe.StringData(b)))
	return from < to+uintptr(len(b)) && to < from+uintptr(len(a))
}

// textsOf gives the texts of each part of m.
func textsOf(m api.Msg) [][]string {
	out := make([][]string, 4)
	for _, q := range m.Qs {
		out[0] = append(out[0], q.Name)
	}
	for i, rrs := range [][]api.Rr{m.An, m.Ns, m.Ar} {
		for _, x := range rrs {
			out[i+1] = append(out[i+1], x.Name, x.Data)
		}
	}
	return out
}

// No text that is answered lies in the memory of what was handed in, nor in another answer's, nor in another list's.
func TestTextsOfTheirOwn(t *testing.T) {
	n, data := nameOf("some", "letters"), strings.Repeat("data", 10)
	rrs := row(with(data, in(n)), with(data[1:], in(n)), with(n, in(nameOf("letters"))), with(data, in(n)))
	m := msg(rrs, rrs, rrs)
	m.Qs = []api.Question{{Name: n, Type: 1, Class: 1}, {Name: data, Type: 2, Class: 1}}
	for _, cut := range []string{root, nameOf("letters"), n} {
		one, _ := bail.Filter(m, cut)
		two, _ := bail.Filter(m, cut)
		lists := slices.Concat(textsOf(one), textsOf(two), [][]string{slices.Concat(textsOf(m)...), {cut}})
		if len(lists[1]) == 0 {
			t.Fatalf("P12.1: nothing is left: %s", tell(one))
		}
		for i, mine := range lists {
			for j, other := range lists[:i] {
				for _, a := range mine {
					// What was handed in may share with the cut.
					if i < 9 && slices.ContainsFunc(other, func(b string) bool { return shares(a, b) }) {
						t.Errorf("R4: the cut %q: %q of list %d shares memory with list %d", cut, a, i, j)
					}
				}
			}
		}
	}
}

// One message and cut have one answer, whatever was asked before.
func TestOneAnswerEachTime(t *testing.T) {
	r := rand.New(rand.NewSource(15))
	m := someMsg(r, 20)
	want, _ := wantFilter(m, nameOf("a"))
	for range 200 {
		bail.Filter(someMsg(r, 8), someName(r))
		if got, e := bail.Filter(m, nameOf("a")); !same(got, want) || e != api.OK {
			t.Fatalf("R5: %s, %d, want %s", tell(got), e, tell(want))
		}
	}
}

func TestSeveralGoroutines(t *testing.T) {
	shared := roomy(someMsg(rand.New(rand.NewSource(16)), 30))
	want, _ := wantFilter(shared, nameOf("a"))
	var all sync.WaitGroup
	for g := range 8 {
		all.Go(func() {
			r := rand.New(rand.NewSource(int64(g)))
			for range 500 {
				m, cut := someMsg(r, 8), someName(r)
				got, e := bail.Filter(m, cut)
				if w, f := wantFilter(m, cut); !same(got, w) || e != f {
					t.Errorf("P12.1: %s, %q: %s, %d", tell(m), cut, tell(got), e)
					return
				}
				if got, e := bail.Filter(shared, nameOf("a")); !same(got, want) || e != api.OK {
					t.Errorf("P12.1: %s, %d", tell(got), e)
					return
				}
			}
		})
	}
	all.Wait()
}

// What costs most: far more records than a message has room for, of the longest names, and names far too long.
func TestItEndsSoon(t *testing.T) {
	began := time.Now()
	const many = 1 << 17
	ones := strings.Repeat("\x01A", 127) + root
	long := strings.Repeat("\x01a", 1<<20) + root
	for _, c := range []struct {
		n, cut string
		left   int
	}{{ones, folded(ones), many}, {ones, root, many}, {ones, nameOf("b", "a"), 0}, {long, nameOf("a"), 0}, {root, ones, 0}} {
		rrs := slices.Repeat(row(in(c.n)), many)
		got, e := bail.Filter(msg(rrs, rrs, rrs), c.cut)
		if len(got.An) != c.left || len(got.Ns) != c.left || len(got.Ar) != c.left || e != api.OK {
			t.Fatalf("P12.1: %d, %d, %d records, want %d", len(got.An), len(got.Ns), len(got.Ar), c.left)
		}
		if got, e := bail.Filter(msg(rrs, rrs, rrs), long); !isZero(got) || e != api.ErrBailForm {
			t.Fatalf("P12.1: a cut far too long: %d", e)
		}
	}
	if took := time.Since(began); took > 20*time.Second {
		t.Errorf("it took %v", took)
	}
}

func FuzzFilter(f *testing.F) {
	f.Add(root, nameOf("a"), nameOf("b", "a"), nameOf("c"), 1, 1, 1, "", 7)
	f.Add(nameOf("A"), nameOf("a"), nameOf("B", "a"), "\x01b", 1, 3, 65537, "abcd", 65536)
	f.Add("\x01", root, "\x00\x00", strings.Repeat("\x01a", 128)+root, 0, 1, -1, "\xc0\x00", -1)
	f.Fuzz(func(t *testing.T, cut, a, b, c string, one, two, three int, data string, x int) {
		h := api.Head{Id: x, Qr: x&1 > 0, Op: one, Aa: x&2 > 0, Tc: x&4 > 0, Rd: x&8 > 0, Ra: x&16 > 0, Z: two, Rcode: three}
		qs := []api.Question{{Name: a, Type: x, Class: one}, {Name: data, Type: two, Class: x}}
		rrs := row(of(one, in(a)), with(data, of(two, in(b))), of(three, in(c)), with(a, in(b+cut)), api.Rr{Name: b, Type: x, Class: 1, Ttl: three, Data: c})
		for _, d := range []string{cut, a, b, root} {
			check(t, api.Msg{Head: h, Qs: qs, An: rrs, Ns: rrs[1:3], Ar: rrs[2:]}, d)
			check(t, api.Msg{Head: h, Qs: qs[:1], An: rrs[:1], Ns: rrs[4:], Ar: nil}, d)
			check(t, roomy(msg(rrs, rrs[:2], nil)), d)
		}
	})
}
