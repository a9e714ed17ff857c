package wire_test

import (
	"fmt"
	"math"
	"math/rand"
	"reflect"
	"slices"
	"strconv"
	"strings"
	"sync"
	"testing"
	"time"
	"unsafe"

	"wimple/api"
	"wimple/rdata"
	"wimple/wire"
)

const root = "\x00"

// nameOf gives the name of the labels.
func nameOf(labels ...string) string {
	out := ""
	for _, l := range labels {
		out += string([]byte{byte(len(l))}) + l
	}
	return out + root
}

// two gives a number's two bytes, four its four.
func two(x int) string {
	return string([]byte{byte(x / 256), byte(x % 256)})
}

func four(x int) string {
	return two(x/65536) + two(x%65536)
}

// point gives a pointer to the place.
func point(place int) string {
	return two(49152 + place)
}

// top gives the bytes of a header of which nothing but the counts is set.
func top(qs, an, ns, ar int) string {
	return "\x00\x00\x00\x00" + two(qs) + two(an) + two(ns) + two(ar)
}

// topOf gives such a header with one count.
func topOf(part, count int) string {
	var counts [4]int
	counts[part] = count
	return top(counts[0], counts[1], counts[2], counts[3])
}

// behindName gives what stands behind a record's name.
func behindName(t, class, ttl int, data string) string {
	return two(t) + two(class) + four(ttl) + two(len(data)) + data
}

// tell shortens what is told of a message.
func tell(x any) string {
	s := fmt.Sprintf("%+q", fmt.Sprintf("%+v", x))
	if len(s) > 400 {
		return s[:400] + ".."
	}
	return s
}

// same says whether two messages are, an empty list and nil being one.
func same(a, b api.Msg) bool {
	return a.Head == b.Head && slices.Equal(a.Qs, b.Qs) && slices.Equal(a.An, b.An) && slices.Equal(a.Ns, b.Ns) && slices.Equal(a.Ar, b.Ar)
}

// partOf gives the i-th part of m, of those that hold records.
func partOf(m *api.Msg, i int) *[]api.Rr {
	return [4]*[]api.Rr{nil, &m.An, &m.Ns, &m.Ar}[i]
}

// withRecords gives a message with the records in its i-th part.
func withRecords(i int, rrs ...api.Rr) api.Msg {
	var m api.Msg
	*partOf(&m, i) = rrs
	return m
}

// withQuestions gives a message with the questions.
func withQuestions(qs ...api.Question) api.Msg {
	return api.Msg{Qs: qs}
}

// alone gives each of the four messages of one item, of a record's name, type and class, or all of it.
func alone(x api.Rr) []api.Msg {
	q := api.Question{Name: x.Name, Type: x.Type, Class: x.Class}
	return []api.Msg{withQuestions(q), withRecords(1, x), withRecords(2, x), withRecords(3, x)}
}

// good gives a record that may be.
func good() api.Rr {
	return api.Rr{Name: nameOf("a"), Type: 1, Class: 1, Ttl: 5, Data: "abcd"}
}

// sheet is what P7.1 writes on: it knows of each label that was written out by a name where it stands and what rest it begins.
type sheet struct {
	out    string
	rests  []string
	places []int
}

func (x *sheet) name(n string) {
	for n != root {
		if i := slices.Index(x.rests, n); i >= 0 {
			x.out += point(x.places[i])
			return
		}
		x.rests, x.places = append(x.rests, n), append(x.places, len(x.out))
		x.out += n[:1+n[0]]
		n = n[1+n[0]:]
	}
	x.out += root
}

// mayName is chapter 1's head.
func mayName(n string) bool {
	size := len(n)
	for n != "" && n[0] >= 1 && n[0] <= 63 && len(n) > int(n[0]) {
		n = n[1+n[0]:]
	}
	return n == root && size <= 255
}

// wantPut is P7.1, said over one list of the three parts of records.
func wantPut(m api.Msg) (string, api.Errno) {
	h := m.Head
	wrong := h.Id < 0 || h.Id > 65535 || h.Op < 0 || h.Op > 15 || h.Z < 0 || h.Z > 7 || h.Rcode < 0 || h.Rcode > 15
	wrong = wrong || len(m.Qs) > 64 || len(m.An) > 64 || len(m.Ns) > 64 || len(m.Ar) > 64
	for _, q := range m.Qs {
		wrong = wrong || !mayName(q.Name) || q.Type < 1 || q.Type > 65535 || q.Class < 0 || q.Class > 65535
	}
	all := slices.Concat(m.An, m.Ns, m.Ar)
	for _, x := range all {
		wrong = wrong || !mayName(x.Name) || x.Type < 1 || x.Type > 65535 || x.Class < 0 || x.Class > 65535
		wrong = wrong || x.Ttl < 0 || x.Ttl > 1<<32-1 || !rdata.May(x.Type, x.Data)
	}
	if wrong {
		return "", api.ErrWireForm
	}
	bits := func(on bool, bit int) int {
		if on {
			return bit
		}
		return 0
	}
	word := bits(h.Qr, 32768) + h.Op*2048 + bits(h.Aa, 1024) + bits(h.Tc, 512) + bits(h.Rd, 256) + bits(h.Ra, 128) + h.Z*16 + h.Rcode
	x := sheet{out: two(h.Id) + two(word) + two(len(m.Qs)) + two(len(m.An)) + two(len(m.Ns)) + two(len(m.Ar))}
	for _, q := range m.Qs {
		x.name(q.Name)
		x.out += two(q.Type) + two(q.Class)
	}
	for _, r := range all {
		x.name(r.Name)
		x.out += behindName(r.Type, r.Class, r.Ttl, r.Data)
	}
	if len(x.out) > 4096 {
		return "", api.ErrWireLong
	}
	return x.out, api.OK
}

// broken is what the reading of P7.2 panics with.
type broken struct{}

// must breaks off a reading.
func must(ok bool) {
	if !ok {
		panic(broken{})
	}
}

// pen goes over bytes; what is wrong breaks off.
type pen struct {
	s  string
	at int
}

func (p *pen) bytes(n int) string {
	must(n <= len(p.s)-p.at)
	p.at += n
	return p.s[p.at-n : p.at]
}

func (p *pen) number(n int) int {
	x := 0
	for _, c := range []byte(p.bytes(n)) {
		x = x*256 + int(c)
	}
	return x
}

func (p *pen) name() string {
	return p.labels(p.at, 255)
}

// labels reads what is left of a name, of which labels began at start: where a pointer leads, another pen goes on.
func (p *pen) labels(start, left int) string {
	c := p.number(1)
	switch {
	case c == 0:
		must(left >= 1)
		return root
	case c <= 63:
		label := p.bytes(c)
		must(left >= 1+c)
		return string([]byte{byte(c)}) + label + p.labels(start, left-1-c)
	}
	must(c >= 192)
	to := (c-192)*256 + p.number(1)
	must(to < start)
	further := pen{p.s, to}
	return further.labels(to, left)
}

func (p *pen) data(t int) string {
	size := p.number(2)
	must(size <= len(p.s)-p.at)
	end := p.at + size
	out := ""
	switch t {
	case 2, 5, 12:
		out = p.name()
	case 15:
		must(size >= 2)
		out = p.bytes(2)
		out += p.name()
	case 6:
		must(size >= 20)
		out = p.name()
		out += p.name()
		must(p.at == end-20)
		out += p.bytes(20)
	default:
		out = p.bytes(size)
	}
	must(p.at == end && rdata.May(t, out))
	return out
}

// wantGet is P7.2.
func wantGet(s string) (m api.Msg, e api.Errno) {
	if len(s) > 4096 {
		return api.Msg{}, api.ErrWireLong
	}
	defer func() {
		if x := recover(); x == (broken{}) {
			m, e = api.Msg{}, api.ErrWireForm
		} else if x != nil {
			panic(x)
		}
	}()
	p := &pen{s: s}
	m.Head.Id = p.number(2)
	word := p.number(2)
	bit := func(x int) bool { return word/x%2 == 1 }
	m.Head.Qr, m.Head.Aa, m.Head.Tc, m.Head.Rd, m.Head.Ra = bit(32768), bit(1024), bit(512), bit(256), bit(128)
	m.Head.Op, m.Head.Z, m.Head.Rcode = word/2048%16, word/16%8, word%16
	counts := [4]int{p.number(2), p.number(2), p.number(2), p.number(2)}
	for part, count := range counts {
		must(count <= 64)
		for range count {
			n, t, class := p.name(), p.number(2), p.number(2)
			must(t != 0)
			if part == 0 {
				m.Qs = append(m.Qs, api.Question{Name: n, Type: t, Class: class})
				continue
			}
			ttl := p.number(4)
			list := partOf(&m, part)
			*list = append(*list, api.Rr{Name: n, Type: t, Class: class, Ttl: ttl, Data: p.data(t)})
		}
	}
	must(p.at == len(s))
	return m, api.OK
}

// checkPut holds Put against P7.1 and, if it wrote, Get against P7.3.
func checkPut(t *testing.T, m api.Msg) (string, api.Errno) {
	t.Helper()
	s, e := wire.Put(m)
	if want, f := wantPut(m); s != want || e != f {
		t.Fatalf("P7.1: Put(%s) = %s, %d, want %s, %d", tell(m), tell(s), e, tell(want), f)
	}
	if e == api.OK {
		if back, f := wire.Get(s); !same(back, m) || f != api.OK {
			t.Fatalf("P7.3: Get(Put(%s)) = %s, %d", tell(m), tell(back), f)
		}
	}
	return s, e
}

// checkGet holds Get against P7.2, and what it answers against P7.1 and P7.3.
func checkGet(t *testing.T, s string) (api.Msg, api.Errno) {
	t.Helper()
	m, e := wire.Get(s)
	want, f := wantGet(s)
	if !same(m, want) || e != f {
		t.Fatalf("P7.2: Get(%s) = %s, %d, want %s, %d", tell(s), tell(m), e, tell(want), f)
	}
	if e == api.OK {
		checkPut(t, m)
	}
	return m, e
}

// refusesPut says that m is refused with the error and nothing beside it.
func refusesPut(t *testing.T, what string, m api.Msg, want api.Errno) {
	t.Helper()
	if s, e := wire.Put(m); s != "" || e != want {
		t.Errorf("P7.1: %s: %s, %d, want %d", what, tell(s), e, want)
	}
}

// refusesGet says that s is refused with the error and nothing beside it.
func refusesGet(t *testing.T, what string, s string, want api.Errno) {
	t.Helper()
	if m, e := wire.Get(s); !same(m, api.Msg{}) || e != want {
		t.Errorf("P7.2: %s: %s, %d, want %d", what, tell(m), e, want)
	}
}

// bothWays says that the message and the bytes are one and the same.
func bothWays(t *testing.T, what string, m api.Msg, s string) {
	t.Helper()
	if got, e := wire.Put(m); got != s || e != api.OK {
		t.Errorf("P7.1: %s: Put = %s, %d, want %s", what, tell(got), e, tell(s))
	}
	reads(t, what, s, m)
}

// reads says that the bytes are read as the message.
func reads(t *testing.T, what string, s string, m api.Msg) {
	t.Helper()
	if got, e := wire.Get(s); !same(got, m) || e != api.OK {
		t.Errorf("P7.2: %s: Get = %s, %d, want %s", what, tell(got), e, tell(m))
	}
}

// ordinary gives messages of the kinds that go between resolvers and servers, and their bytes.
func ordinary() []struct {
	what string
	m    api.Msg
	s    string
} {
	www, example, ns := nameOf("www", "example"), nameOf("example"), nameOf("ns", "example")
	numbers := strings.Repeat("\x00\x00\x0e\x10", 5)
	return []struct {
		what string
		m    api.Msg
		s    string
	}{
		{
			"a query with an OPT",
			api.Msg{
				Head: api.Head{Id: 0x1234, Rd: true},
				Qs:   []api.Question{{Name: www, Type: api.TypeA, Class: api.ClassIn}},
				Ar:   []api.Rr{{Name: root, Type: api.TypeOpt, Class: 1232, Data: "\x00\x0c\x00\x02\x00\x00"}},
			},
			"\x12\x34\x01\x00\x00\x01\x00\x00\x00\x00\x00\x01" + "\x03www\x07example\x00\x00\x01\x00\x01" +
				"\x00\x00\x29\x04\xd0\x00\x00\x00\x00\x00\x06\x00\x0c\x00\x02\x00\x00",
		},
		{
			"an answer of two addresses",
			api.Msg{
				Head: api.Head{Id: 7, Qr: true, Aa: true},
				Qs:   []api.Question{{Name: www, Type: api.TypeA, Class: api.ClassIn}},
				An: []api.Rr{
					{Name: www, Type: api.TypeA, Class: api.ClassIn, Ttl: 3600, Data: "\xc0\x00\x02\x01"},
					{Name: www, Type: api.TypeA, Class: api.ClassIn, Ttl: 3600, Data: "\xc0\x00\x02\x02"},
				},
			},
			"\x00\x07\x84\x00\x00\x01\x00\x02\x00\x00\x00\x00" + "\x03www\x07example\x00\x00\x01\x00\x01" +
				"\xc0\x0c\x00\x01\x00\x01\x00\x00\x0e\x10\x00\x04\xc0\x00\x02\x01" +
				"\xc0\x0c\x00\x01\x00\x01\x00\x00\x0e\x10\x00\x04\xc0\x00\x02\x02",
		},
		{
			"a referral with glue",
			api.Msg{
				Head: api.Head{Id: 0xbeef, Qr: true},
				Qs:   []api.Question{{Name: www, Type: api.TypeA, Class: api.ClassIn}},
				Ns:   []api.Rr{{Name: example, Type: api.TypeNs, Class: api.ClassIn, Ttl: 86400, Data: ns}},
				Ar: []api.Rr{
					{Name: ns, Type: api.TypeA, Class: api.ClassIn, Ttl: 86400, Data: "\x01\x02\x03\x04"},
					{Name: ns, Type: api.TypeAaaa, Class: api.ClassIn, Ttl: 86400, Data: "0123456789abcdef"},
				},
			},
			"\xbe\xef\x80\x00\x00\x01\x00\x00\x00\x01\x00\x02" + "\x03www\x07example\x00\x00\x01\x00\x01" +
				"\xc0\x10\x00\x02\x00\x01\x00\x01\x51\x80\x00\x0c\x02ns\x07example\x00" +
				"\x02ns\xc0\x10\x00\x01\x00\x01\x00\x01\x51\x80\x00\x04\x01\x02\x03\x04" +
				"\xc0\x35\x00\x1c\x00\x01\x00\x01\x51\x80\x00\x100123456789abcdef",
		},
		{
			"a name that is not there",
			api.Msg{
				Head: api.Head{Id: 1, Qr: true, Aa: true, Rcode: api.RcodeNx},
				Qs:   []api.Question{{Name: www, Type: api.TypeMx, Class: api.ClassIn}},
				Ns:   []api.Rr{{Name: example, Type: api.TypeSoa, Class: api.ClassIn, Ttl: 60, Data: ns + root + numbers}},
			},
			"\x00\x01\x84\x03\x00\x01\x00\x00\x00\x01\x00\x00" + "\x03www\x07example\x00\x00\x0f\x00\x01" +
				"\xc0\x10\x00\x06\x00\x01\x00\x00\x00\x3c\x00\x21\x02ns\x07example\x00\x00" + numbers,
		},
		{
			"each part, and data with names and without",
			api.Msg{
				Head: api.Head{Id: 65535, Qr: true, Op: 9, Aa: true, Tc: true, Rd: true, Ra: true, Z: 5, Rcode: 11},
				Qs:   []api.Question{{Name: root, Type: api.TypeAny, Class: 255}, {Name: ns, Type: 65535, Class: 0}},
				An:   []api.Rr{{Name: example, Type: api.TypeMx, Class: 3, Ttl: 1<<32 - 1, Data: "\x00\x0a" + www}},
				Ns:   []api.Rr{{Name: root, Type: api.TypeCname, Class: 65535, Ttl: 0, Data: root}, {Name: ns, Type: api.TypePtr, Class: 0, Ttl: 1 << 24, Data: example}},
				Ar:   []api.Rr{{Name: www, Type: api.TypeTxt, Class: 1, Ttl: 258, Data: "\x00\x02\xc0\x0c"}, {Name: www, Type: 99, Class: 1, Ttl: 1, Data: ""}},
			},
			"\xff\xff\xcf\xdb\x00\x02\x00\x01\x00\x02\x00\x02" + "\x00\x00\xff\x00\xff" + "\x02ns\x07example\x00\xff\xff\x00\x00" +
				"\xc0\x14\x00\x0f\x00\x03\xff\xff\xff\xff\x00\x0f\x00\x0a\x03www\x07example\x00" +
				"\x00\x00\x05\xff\xff\x00\x00\x00\x00\x00\x01\x00" + "\xc0\x11\x00\x0c\x00\x00\x01\x00\x00\x00\x00\x09\x07example\x00" +
				"\x03www\xc0\x14\x00\x10\x00\x01\x00\x00\x01\x02\x00\x04\x00\x02\xc0\x0c" + "\xc0\x5d\x00\x63\x00\x01\x00\x00\x00\x01\x00\x00",
		},
	}
}

func TestOrdinaryMessages(t *testing.T) {
	for _, c := range ordinary() {
		bothWays(t, c.what, c.m, c.s)
		checkPut(t, c.m)
		checkGet(t, c.s)
	}
}

func TestNoParts(t *testing.T) {
	empty := api.Msg{Qs: []api.Question{}, An: []api.Rr{}, Ns: []api.Rr{}, Ar: make([]api.Rr, 0, 5)}
	bothWays(t, "nothing", api.Msg{}, strings.Repeat("\x00", 12))
	bothWays(t, "empty lists", empty, strings.Repeat("\x00", 12))
	h := api.Head{Id: 65535, Qr: true, Op: 15, Aa: true, Tc: true, Rd: true, Ra: true, Z: 7, Rcode: 15}
	bothWays(t, "all of a header", api.Msg{Head: h}, "\xff\xff\xff\xff"+strings.Repeat("\x00", 8))
}

func TestMaxRrs(t *testing.T) {
	q := api.Question{Name: root, Type: 1, Class: 1}
	rr := api.Rr{Name: root, Type: 99}
	piece := [4]string{"\x00\x00\x01\x00\x01", "\x00" + behindName(99, 0, 0, ""), "\x00" + behindName(99, 0, 0, ""), "\x00" + behindName(99, 0, 0, "")}
	for part := range 4 {
		for _, count := range []int{0, 1, 2, 63, 64, 65, 66, 128, 256, 65535, 65536, 65537, 65600, 1 << 20} {
			m := withQuestions(slices.Repeat([]api.Question{q}, count)...)
			if part > 0 {
				m = withRecords(part, slices.Repeat([]api.Rr{rr}, count)...)
			}
			what := fmt.Sprintf("%d of part %d", count, part)
			if count > 64 {
				refusesPut(t, what, m, api.ErrWireForm)
			} else {
				bothWays(t, what, m, topOf(part, count)+strings.Repeat(piece[part], count))
			}
			if s := topOf(part, count%65536) + strings.Repeat(piece[part], count); count > 64 && len(s) <= 4096 {
				refusesGet(t, what, s, api.ErrWireForm)
			}
			if count > 64 && count < 65536 {
				refusesGet(t, what+", none there", topOf(part, count), api.ErrWireForm)
			}
		}
	}
	all := api.Msg{Qs: slices.Repeat([]api.Question{q}, 64), An: slices.Repeat([]api.Rr{rr}, 64), Ns: slices.Repeat([]api.Rr{rr}, 64), Ar: slices.Repeat([]api.Rr{rr}, 64)}
	bothWays(t, "64 each", all, top(64, 64, 64, 64)+strings.Repeat(piece[0], 64)+strings.Repeat(piece[1], 192))
	for part := range 4 {
		m := all
		if part == 0 {
			m.Qs = append(slices.Clone(m.Qs), q)
		} else {
			*partOf(&m, part) = slices.Repeat([]api.Rr{rr}, 65)
		}
		refusesPut(t, "one too many in part "+strconv.Itoa(part), m, api.ErrWireForm)
	}
}

// numbersOf is a number of an item, from low to high, and how it is set; least is the first part that has it.
type numbersOf struct {
	name      string
	least     int
	low, high int
	set       func(x *api.Rr, n int)
}

func TestNumbers(t *testing.T) {
	for _, c := range []numbersOf{
		{"Type", 0, 1, 65535, func(x *api.Rr, n int) { x.Type = n }},
		{"Class", 0, 0, 65535, func(x *api.Rr, n int) { x.Class = n }},
		{"Ttl", 1, 0, 1<<32 - 1, func(x *api.Rr, n int) { x.Ttl = n }},
	} {
		numbers := []int{
			math.MinInt, math.MinInt + 1, -1 << 32, -1<<32 + 1, -65536, -65535, -257, -256, -2, -1, 0, 1, 2, 255, 256, 257, 65534, 65535, 65536, 65537, 1<<17 + 1,
			1<<31 - 1, 1 << 31, 1<<32 - 2, 1<<32 - 1, 1 << 32, 1<<32 + 1, 1<<33 + 1, 1<<48 + 1, math.MaxInt - 1, math.MaxInt,
		}
		for _, n := range numbers {
			// Data of four bytes may be for TypeA and for a type without a form of its own; of the name's types it is none.
			x := good()
			c.set(&x, n)
			for part, m := range alone(x)[c.least:] {
				what := fmt.Sprintf("%s %d, part %d", c.name, n, part+c.least)
				if n == 2 && c.name == "Type" && part > 0 {
					continue
				}
				if n < c.low || n > c.high {
					refusesPut(t, what, m, api.ErrWireForm)
				} else if s, e := checkPut(t, m); s == "" || e != api.OK {
					t.Errorf("P7.1: %s: %q, %d", what, s, e)
				}
			}
		}
	}
}

// Numbers stand in their places, the highest byte first.
func TestNumbersAsBytes(t *testing.T) {
	for part := range 4 {
		for _, c := range []struct {
			t, class, ttl int
			bytes         string
		}{
			{1, 0, 0, "\x00\x01\x00\x00\x00\x00\x00\x00"}, {65535, 65535, 1<<32 - 1, "\xff\xff\xff\xff\xff\xff\xff\xff"},
			{258, 772, 84281096, "\x01\x02\x03\x04\x05\x06\x07\x08"}, {41, 1, 1 << 31, "\x00\x29\x00\x01\x80\x00\x00\x00"},
		} {
			x := api.Rr{Name: nameOf("a"), Type: c.t, Class: c.class, Ttl: c.ttl, Data: "abcd"}
			s := topOf(part, 1) + "\x01a\x00" + c.bytes[:4]
			if part > 0 {
				s += c.bytes[4:] + "\x00\x04abcd"
			}
			bothWays(t, fmt.Sprintf("%+v in part %d", c, part), alone(x)[part], s)
		}
	}
}

// A Type of 0 is none when read either, with data and without.
func TestTypeNoneRead(t *testing.T) {
	refusesGet(t, "a question", topOf(0, 1)+"\x00\x00\x00\x00\x01", api.ErrWireForm)
	refusesGet(t, "a second question", topOf(0, 2)+"\x00\x00\x01\x00\x01"+"\x00\x00\x00\x00\x01", api.ErrWireForm)
	refusesGet(t, "a first question", topOf(0, 2)+"\x00\x00\x00\x00\x01"+"\x00\x00\x01\x00\x01", api.ErrWireForm)
	for part := 1; part < 4; part++ {
		for _, data := range []string{"", "\x00", "abcd"} {
			refusesGet(t, "a record", topOf(part, 1)+"\x00"+behindName(0, 1, 5, data), api.ErrWireForm)
		}
	}
}

func TestHeadRefused(t *testing.T) {
	full := api.Msg{Qs: []api.Question{{Name: root, Type: 1, Class: 1}}, An: []api.Rr{good()}, Ns: []api.Rr{good()}, Ar: []api.Rr{good()}}
	for _, x := range []int{math.MinInt, -65536, -1, 65536, 1 << 32, math.MaxInt} {
		for _, h := range []api.Head{{Id: x}, {Op: x}, {Z: x}, {Rcode: x}} {
			refusesPut(t, tell(h), api.Msg{Head: h}, api.ErrWireForm)
			m := full
			m.Head = h
			refusesPut(t, tell(h)+" with parts", m, api.ErrWireForm)
		}
	}
	for _, h := range []api.Head{{Op: 16}, {Z: 8}, {Rcode: 16}} {
		refusesPut(t, tell(h), api.Msg{Head: h}, api.ErrWireForm)
	}
	for _, h := range []api.Head{{Id: 65535}, {Op: 15}, {Z: 7}, {Rcode: 15}} {
		m := full
		m.Head = h
		if s, e := checkPut(t, m); s == "" || e != api.OK {
			t.Errorf("P7.1: %+v: %d", h, e)
		}
	}
}

// datas gives, by type, data that may be and data that may not.
func datas() map[int][2][]string {
	n, long := nameOf("x", "yz"), strings.Repeat("\x3f"+strings.Repeat("n", 63), 3)
	longest := long + "\x3d" + strings.Repeat("n", 61) + root
	tooLong := long + "\x3e" + strings.Repeat("n", 62) + root
	names := [2][]string{{root, n, longest}, {"", "x", n[:4], n + "x", tooLong, point(12), "\x01x" + point(12), "\x40" + strings.Repeat("n", 64) + root}}
	numbers := strings.Repeat("n", 20)
	return map[int][2][]string{
		1:  {{"abcd", "\x00\x00\x00\x00"}, {"", "abc", "abcde", "0123456789abcdef"}},
		28: {{"0123456789abcdef"}, {"", "abcd", "0123456789abcde", "0123456789abcdefg"}},
		2:  names, 5: names, 12: names,
		15:    {{"\x00\x00" + root, "pp" + n, "pp" + longest}, {"", "p", "pp", "p" + n, "pp" + n + "x", "pp" + point(12), "pp" + tooLong}},
		6:     {{root + root + numbers, n + n + numbers, longest + longest + numbers}, {"", n + n, n + numbers, n + n + numbers[1:], n + n + numbers + "x", n + point(12) + numbers, point(12) + n + numbers, n + tooLong + numbers}},
		16:    {{"\x00", "\x03abc", "\x00\x00\x01a", "\xff" + strings.Repeat("t", 255)}, {"", "\x03ab", "\x03abcd", "\x01"}},
		41:    {{"", "x", point(12), strings.Repeat("o", 3000)}, nil},
		99:    {{"", "x", "\x01x" + point(12), strings.Repeat("o", 3000)}, nil},
		255:   {{"", "abcd"}, nil},
		65535: {{"", "abcd"}, nil},
		0:     {nil, {"", "\x00", "abcd"}},
		65536: {nil, {"", "\x00", "abcd"}},
		-1:    {nil, {"", "\x00", "abcd"}},
	}
}

func TestData(t *testing.T) {
	for kind, both := range datas() {
		for part := 1; part < 4; part++ {
			for _, data := range both[0] {
				x := api.Rr{Name: nameOf("x"), Type: kind, Class: 1, Ttl: 9, Data: data}
				bothWays(t, fmt.Sprintf("type %d, data %.20q, part %d", kind, data, part), withRecords(part, x), topOf(part, 1)+"\x01x\x00"+behindName(kind, 1, 9, data))
				bothWays(t, fmt.Sprintf("type %d, data %.20q, second in part %d", kind, data, part), withRecords(part, good(), x), topOf(part, 2)+"\x01a\x00"+behindName(1, 1, 5, "abcd")+"\x01x\x00"+behindName(kind, 1, 9, data))
			}
			for _, data := range both[1] {
				x := api.Rr{Name: nameOf("x"), Type: kind, Class: 1, Ttl: 9, Data: data}
				what := fmt.Sprintf("type %d, data %.20q, part %d", kind, data, part)
				refusesPut(t, what, withRecords(part, x), api.ErrWireForm)
				refusesPut(t, what, withRecords(part, good(), x), api.ErrWireForm)
				refusesPut(t, what, withRecords(part, x, good()), api.ErrWireForm)
			}
		}
	}
}

// Bytes that may not be for a type are none when read; of the types with names a pointer there is read, and may lead to one.
func TestDataRead(t *testing.T) {
	for kind, both := range datas() {
		for part := 1; part < 4 && kind >= 0 && kind < 65536; part++ {
			for _, data := range both[1] {
				s := topOf(part, 1) + "\x01x\x00" + behindName(kind, 1, 9, data)
				m, e := checkGet(t, s)
				if strings.Contains(data, point(12)) {
					if e != api.OK || strings.Contains((*partOf(&m, part))[0].Data, point(12)) {
						t.Errorf("P7.2: type %d, data %q: %s, %d", kind, data, tell(m), e)
					}
				} else if e != api.ErrWireForm {
					t.Errorf("P7.2: type %d, data %.20q: %s, %d", kind, data, tell(m), e)
				}
			}
		}
	}
}

// longMessages gives messages of so many bytes, some 4,096, by what they end in.
func longMessages(size int) map[string]api.Msg {
	filler := func(n int) api.Rr {
		return api.Rr{Name: root, Type: 99, Class: 1, Data: strings.Repeat("f", n-11)}
	}
	left := size - 12
	out := map[string]api.Msg{
		"data, answers":     {An: []api.Rr{filler(left)}},
		"data, authorities": {Ns: []api.Rr{filler(left)}},
		"data, additionals": {Ar: []api.Rr{filler(left)}},
		"data that is cut":  {An: []api.Rr{filler(left - 100)}, Ns: []api.Rr{filler(50)}, Ar: []api.Rr{filler(50)}},
		"no data":           {An: []api.Rr{filler(left - 11)}, Ns: []api.Rr{filler(11)}},
		"a name, no data":   {Ns: []api.Rr{filler(left - 15), {Name: nameOf("abc"), Type: 99}}},
		"a pointer":         {Qs: []api.Question{{Name: nameOf("abc"), Type: 1}}, Ar: []api.Rr{filler(left - 9 - 12), {Name: nameOf("abc"), Type: 99}}},
		"a label, pointer":  {Qs: []api.Question{{Name: nameOf("abc"), Type: 1}}, Ar: []api.Rr{filler(left - 9 - 14), {Name: nameOf("q", "abc"), Type: 99}}},
		"data with a name":  {Qs: []api.Question{{Name: nameOf("abc"), Type: 1}}, An: []api.Rr{filler(left - 9 - 12 - 5), {Name: nameOf("abc"), Type: 2, Data: nameOf("abc")}}},
		"small ones behind": {An: []api.Rr{filler(left - 33)}, Ar: []api.Rr{filler(11), filler(11), filler(11)}},
	}
	// 15 questions of 259 bytes share no label; a last one fills up.
	var qs []api.Question
	for i := 0; i < 15 && left > 600; i++ {
		label := func(k, n int) string { return strings.Repeat(string([]byte{byte('a' + i), byte('0' + k)}), 32)[:n] }
		qs = append(qs, api.Question{Name: nameOf(label(0, 63), label(1, 63), label(2, 63), label(3, 61)), Type: 1})
		left -= 259
	}
	for left > 0 {
		n := min(left, 64+5)
		if rest := left - n; rest > 0 && rest < 8 {
			n -= 8
		}
		qs = append(qs, api.Question{Name: nameOf(strings.Repeat(string([]byte{byte('A' + len(qs))}), n-6)), Type: 1})
		left -= n
	}
	out["questions"] = api.Msg{Qs: qs}
	return out
}

func TestLongestMessage(t *testing.T) {
	for what, m := range longMessages(4096) {
		s, e := checkPut(t, m)
		if len(s) != 4096 || e != api.OK {
			t.Errorf("P7.1: %s: %d bytes, %d", what, len(s), e)
		}
		reads(t, what, s, m)
		refusesGet(t, what+" and a byte", s+"\x00", api.ErrWireLong)
	}
	for what, m := range longMessages(4095) {
		if s, e := checkPut(t, m); len(s) != 4095 || e != api.OK {
			t.Errorf("P7.1: %s: %d bytes, %d", what, len(s), e)
		}
	}
	for size := 4097; size < 4180; size++ {
		for what, m := range longMessages(size) {
			refusesPut(t, what+" to "+strconv.Itoa(size), m, api.ErrWireLong)
		}
	}
}

// A piece that has no room is not made up for by smaller ones behind it, whatever piece it is.
func TestNoRoomInTheMiddle(t *testing.T) {
	huge := api.Rr{Name: root, Type: 99, Data: strings.Repeat("h", 65535)}
	small := api.Rr{Name: root, Type: 99}
	for part := 1; part < 4; part++ {
		refusesPut(t, "great data", withRecords(part, huge), api.ErrWireLong)
		refusesPut(t, "great data, then small", withRecords(part, huge, small), api.ErrWireLong)
		refusesPut(t, "small, then great data, then small", withRecords(part, small, huge, small), api.ErrWireLong)
	}
	refusesPut(t, "great data among answers", api.Msg{An: []api.Rr{huge}, Ns: []api.Rr{small}, Ar: []api.Rr{small}}, api.ErrWireLong)
	refusesPut(t, "great data everywhere", api.Msg{An: slices.Repeat([]api.Rr{huge}, 64), Ns: slices.Repeat([]api.Rr{huge}, 64), Ar: slices.Repeat([]api.Rr{huge}, 64)}, api.ErrWireLong)
	huge.Data = strings.Repeat("h", 4096-12-11-20)
	long := api.Rr{Name: nameOf(strings.Repeat("n", 30)), Type: 99}
	refusesPut(t, "a name", api.Msg{An: []api.Rr{huge, long}}, api.ErrWireLong)
	refusesPut(t, "a name, then a small record", api.Msg{An: []api.Rr{huge, long, small}}, api.ErrWireLong)
	huge.Data = strings.Repeat("h", 4096-12-11-5)
	refusesPut(t, "what stands behind a name", api.Msg{Ns: []api.Rr{huge, small}}, api.ErrWireLong)
	refusesPut(t, "what stands behind a name, then a name", api.Msg{Ns: []api.Rr{huge, {Name: nameOf("a"), Type: 99}, small}}, api.ErrWireLong)
}

// Where both errors apply, a message that is put is wrong, and one that is read is too long.
func TestWhichError(t *testing.T) {
	huge := api.Rr{Name: root, Type: 99, Data: strings.Repeat("h", 65535)}
	for part := 1; part < 4; part++ {
		wrong := good()
		wrong.Data = "abc"
		m := api.Msg{An: []api.Rr{huge}}
		*partOf(&m, part) = append(slices.Clone(*partOf(&m, part)), wrong)
		refusesPut(t, "long, then wrong", m, api.ErrWireForm)
	}
	refusesPut(t, "a wrong question, then long", api.Msg{Qs: []api.Question{{Name: "", Type: 1}}, An: []api.Rr{huge}}, api.ErrWireForm)
	refusesPut(t, "a wrong header, long", api.Msg{Head: api.Head{Z: 8}, An: []api.Rr{huge}}, api.ErrWireForm)
	refusesPut(t, "too many, long", api.Msg{Ar: slices.Repeat([]api.Rr{huge}, 65)}, api.ErrWireForm)
	tooGreat := huge
	tooGreat.Data += "h"
	refusesPut(t, "data of 65,536 bytes", api.Msg{An: []api.Rr{tooGreat}}, api.ErrWireForm)
	refusesPut(t, "long, then data of 65,536 bytes", api.Msg{An: []api.Rr{huge}, Ns: []api.Rr{tooGreat}}, api.ErrWireForm)
	texts := api.Rr{Name: root, Type: 16, Data: strings.Repeat("\x00", 65535)}
	refusesPut(t, "texts of 65,535 bytes", api.Msg{An: []api.Rr{texts}}, api.ErrWireLong)
	texts.Data += "\x00"
	refusesPut(t, "texts of 65,536 bytes", api.Msg{An: []api.Rr{texts}}, api.ErrWireForm)

	for _, size := range []int{4097, 4098, 8192, 65536, 1 << 20} {
		for _, c := range []string{"\x00", "\xff", "a"} {
			refusesGet(t, "bytes "+tell(c), strings.Repeat(c, size), api.ErrWireLong)
		}
		refusesGet(t, "a header and more", top(1, 1, 1, 1)+strings.Repeat("\x00", size-12), api.ErrWireLong)
	}
	for _, c := range []string{"\x00", "\xff", "a"} {
		refusesGet(t, "4096 bytes "+tell(c), strings.Repeat(c, 4096), api.ErrWireForm)
	}
}

// One Writer writes the names of all parts: an end that stands in one is pointed to from all behind it.
func TestSharedEnds(t *testing.T) {
	abc, bc, c, xbc := nameOf("a", "b", "c"), nameOf("b", "c"), nameOf("c"), nameOf("x", "b", "c")
	q := func(n string) api.Question { return api.Question{Name: n, Type: 1, Class: 1} }
	rr := func(n string) api.Rr { return api.Rr{Name: n, Type: 99, Class: 1} }
	tailQ, tailR := "\x00\x01\x00\x01", behindName(99, 1, 0, "")
	bothWays(t, "questions", withQuestions(q(abc), q(abc), q(bc), q(c), q(xbc), q(root), q(xbc)),
		topOf(0, 7)+abc+tailQ+point(12)+tailQ+point(14)+tailQ+point(16)+tailQ+"\x01x"+point(14)+tailQ+root+tailQ+point(41)+tailQ)
	for part := 1; part < 4; part++ {
		bothWays(t, "records", withRecords(part, rr(c), rr(bc), rr(abc), rr(abc), rr(root), rr(xbc)),
			topOf(part, 6)+c+tailR+"\x01b"+point(12)+tailR+"\x01a"+point(25)+tailR+point(39)+tailR+root+tailR+"\x01x"+point(25)+tailR)
	}
	bothWays(t, "one name in all parts", api.Msg{Qs: []api.Question{q(abc)}, An: []api.Rr{rr(abc)}, Ns: []api.Rr{rr(bc)}, Ar: []api.Rr{rr(xbc)}},
		top(1, 1, 1, 1)+abc+tailQ+point(12)+tailR+point(14)+tailR+"\x01x"+point(14)+tailR)
	bothWays(t, "a name of answers further on", api.Msg{An: []api.Rr{rr(abc)}, Ns: []api.Rr{rr(abc)}, Ar: []api.Rr{rr(abc)}},
		top(0, 1, 1, 1)+abc+tailR+point(12)+tailR+point(12)+tailR)
	bothWays(t, "a name of authorities further on", api.Msg{Ns: []api.Rr{rr(abc)}, Ar: []api.Rr{rr(bc)}},
		top(0, 0, 1, 1)+abc+tailR+point(14)+tailR)
	// Byte for byte: letters of another case are another name.
	big := nameOf("A", "b", "c")
	bothWays(t, "letters of both cases", withQuestions(q(abc), q(big), q(nameOf("a", "b", "C"))),
		topOf(0, 3)+abc+tailQ+"\x01A"+point(14)+tailQ+nameOf("a", "b", "C")+tailQ)
}

// Names within data are neither compressed nor pointed to.
func TestNamesWithinData(t *testing.T) {
	ab, b, numbers := nameOf("a", "b"), nameOf("b"), strings.Repeat("5", 20)
	for _, c := range []struct {
		t    int
		data string
	}{{2, ab}, {5, ab}, {12, ab}, {15, "\x00\x07" + ab}, {6, ab + b + numbers}, {6, ab + ab + numbers}} {
		for part := 1; part < 4; part++ {
			what := fmt.Sprintf("type %d, part %d", c.t, part)
			x := api.Rr{Name: ab, Type: c.t, Class: 1, Ttl: 1, Data: c.data}
			tail := behindName(c.t, 1, 1, c.data)
			bothWays(t, what, withRecords(part, x, x), topOf(part, 2)+ab+tail+point(12)+tail)
			other := x
			other.Name = nameOf("q")
			bothWays(t, what, withRecords(part, other, x), topOf(part, 2)+nameOf("q")+tail+ab+tail)
			m := withRecords(part, other)
			m.Qs = []api.Question{{Name: ab, Type: 1, Class: 1}}
			head := topOf(part, 1)
			bothWays(t, what, m, head[:5]+"\x01"+head[6:]+ab+"\x00\x01\x00\x01"+nameOf("q")+tail)
		}
	}
}

// Data that is read may have compressed names, that lead to the header, to questions and to names; it is told whole.
func TestCompressedDataIsRead(t *testing.T) {
	ab, b, numbers := nameOf("a", "b"), nameOf("b"), strings.Repeat("5", 20)
	for _, c := range []struct {
		t     int
		data  string
		whole string
	}{
		{2, point(12), ab}, {5, point(12), ab}, {12, point(14), b}, {2, "\x01c" + point(14), nameOf("c", "b")}, {2, point(21), ab}, {2, point(0), root},
		{15, "\x00\x07" + point(12), "\x00\x07" + ab}, {15, "\xc0\x0c" + point(14), "\xc0\x0c" + b},
		{6, point(12) + point(14) + numbers, ab + b + numbers}, {6, ab + point(14) + numbers, ab + b + numbers}, {6, point(14) + ab + numbers, b + ab + numbers},
		{6, "\x01c" + point(12) + "\x01d" + point(14) + numbers, nameOf("c", "a", "b") + nameOf("d", "b") + numbers},
		{6, "\x01c" + point(12) + point(33) + numbers, nameOf("c", "a", "b") + nameOf("c", "a", "b") + numbers},
		{99, point(12), point(12)}, {16, "\x02" + point(12), "\x02" + point(12)}, {1, point(12) + point(14), point(12) + point(14)},
	} {
		for part := 1; part < 4; part++ {
			m := withRecords(part, api.Rr{Name: ab, Type: c.t, Class: 1, Ttl: 1, Data: c.whole})
			m.Qs = []api.Question{{Name: ab, Type: 1, Class: 1}}
			s := compressed(part, c.t, c.data)
			reads(t, fmt.Sprintf("type %d, data %q, part %d", c.t, c.data, part), s, m)
			checkGet(t, s)
		}
	}
}

// compressed gives a message with a question of the name a.b., at 12, and a record with such a name, at 21, whose data stands at 33.
func compressed(part, kind int, data string) string {
	head := topOf(part, 1)
	return head[:5] + "\x01" + head[6:] + nameOf("a", "b") + "\x00\x01\x00\x01" + point(12) + behindName(kind, 1, 1, data)
}

// Pointers of data that lead nowhere, and names that do not end where the data does.
func TestWrongCompressedData(t *testing.T) {
	numbers := strings.Repeat("5", 20)
	for _, c := range []struct {
		t    int
		data string
	}{
		{2, point(33)}, {2, point(34)}, {2, point(35)}, {2, point(100)}, {2, point(4095)}, {2, point(16383)}, {2, "\x01c" + point(33)}, {2, "\x01c" + point(34)},
		{2, point(12) + "x"}, {2, point(12) + root}, {2, "\xc0"}, {2, "\x01c"}, {2, "\x80\x0c"}, {2, "\x40\x0c"}, {15, "\x00" + point(12)}, {15, point(12)},
		{6, point(12) + numbers}, {6, point(12) + point(12) + numbers + "x"}, {6, point(12) + point(12) + numbers[1:]}, {6, point(12) + point(12) + point(12) + numbers},
		{6, point(12) + point(35) + numbers},
	} {
		for part := 1; part < 4; part++ {
			s := compressed(part, c.t, c.data)
			refusesGet(t, fmt.Sprintf("type %d, data %q, part %d", c.t, c.data, part), s, api.ErrWireForm)
			checkGet(t, s)
		}
	}
}

// A message of compressed data may be read and, written out, be too long to be put.
func TestWholeDataMayBeTooLong(t *testing.T) {
	long := nameOf(strings.Repeat("n", 63), strings.Repeat("o", 63), strings.Repeat("p", 63))
	s := top(1, 64, 0, 0) + long + "\x00\x02\x00\x01" + strings.Repeat(point(12)+behindName(2, 1, 1, point(12)), 64)
	m, e := checkGet(t, s)
	if e != api.OK || len(m.An) != 64 || m.An[63].Data != long {
		t.Fatalf("P7.2: %s, %d", tell(m), e)
	}
	refusesPut(t, "data written out", m, api.ErrWireLong)
}

// A header counts what there is, no more and no fewer.
func TestCounts(t *testing.T) {
	for _, c := range ordinary() {
		for part := range 4 {
			place := 4 + 2*part
			count := int(c.s[place])*256 + int(c.s[place+1])
			for _, x := range []int{0, 1, 2, 3, 4, 5, 63, 64, 65, 255, 256, 257, 32768, 65535} {
				if x == count {
					continue
				}
				refusesGet(t, fmt.Sprintf("%s: %d of part %d told as %d", c.what, count, part, x), c.s[:place]+two(x)+c.s[place+2:], api.ErrWireForm)
			}
		}
	}
	for part := range 4 {
		refusesGet(t, "one counted and none there", topOf(part, 1), api.ErrWireForm)
		refusesGet(t, "64 counted and none there", topOf(part, 64), api.ErrWireForm)
	}
	// Items of one part are not those of another.
	q, rr := root+"\x00\x01\x00\x01", root+behindName(99, 1, 1, "abcd")
	refusesGet(t, "a question for a record", topOf(1, 1)+q, api.ErrWireForm)
	refusesGet(t, "a record for a question", topOf(0, 1)+rr, api.ErrWireForm)
	refusesGet(t, "a record ahead of a question", top(1, 1, 0, 0)+rr+q, api.ErrWireForm)
}

// Each part's count stands in its own place.
func TestPartsInTheirPlaces(t *testing.T) {
	for i := range 3 * 4 * 5 * 6 {
		counts := [4]int{i % 3, i / 3 % 4, i / 12 % 5, i / 60}
		var m api.Msg
		s := top(counts[0], counts[1], counts[2], counts[3])
		for k := range counts[0] {
			m.Qs = append(m.Qs, api.Question{Name: root, Type: 1 + k, Class: k})
			s += root + two(1+k) + two(k)
		}
		for part := 1; part < 4; part++ {
			for k := range counts[part] {
				data := fmt.Sprintf("%d of %d", k, part)
				*partOf(&m, part) = append(*partOf(&m, part), api.Rr{Name: root, Type: 99, Class: k, Ttl: part, Data: data})
				s += root + behindName(99, k, part, data)
			}
		}
		bothWays(t, fmt.Sprint(counts), m, s)
	}
}

func TestBytesBehind(t *testing.T) {
	for _, c := range ordinary() {
		for _, behind := range []string{"\x00", "\xff", "x", "\xc0\x0c", root + "\x00\x01\x00\x01", root + behindName(99, 1, 1, ""), strings.Repeat("\x00", 1000)} {
			refusesGet(t, c.what+" and more", c.s+behind, api.ErrWireForm)
		}
		refusesGet(t, c.what+" twice", c.s+c.s, api.ErrWireForm)
	}
	for _, behind := range []string{"\x00", "\xff", "x"} {
		refusesGet(t, "a header and more", top(0, 0, 0, 0)+behind, api.ErrWireForm)
	}
}

func TestCutAtEachPlace(t *testing.T) {
	all := ordinary()
	for what, m := range longMessages(4096) {
		s, _ := wire.Put(m)
		all = append(all, struct {
			what string
			m    api.Msg
			s    string
		}{what, m, s})
	}
	for _, c := range all {
		for n := range len(c.s) {
			refusesGet(t, fmt.Sprintf("%s, cut at %d", c.what, n), c.s[:n], api.ErrWireForm)
		}
	}
}

func TestEmptyString(t *testing.T) {
	refusesGet(t, "nothing", "", api.ErrWireForm)
	for n := range 12 {
		for _, c := range []string{"\x00", "\xff", "a"} {
			refusesGet(t, "too few", strings.Repeat(c, n), api.ErrWireForm)
		}
	}
}

// noNames gives texts that are no names.
func noNames() []string {
	return []string{
		"", "x", "a.", "www.example.", "\x01a", "\x02a\x00", "\x01a\x00\x00", "\x00\x00", "\x00x", "\x40" + strings.Repeat("a", 64) + "\x00", "\xc0\x0c", "\x01a\xc0\x0c",
		strings.Repeat("\x01a", 127) + "\x01\x00", strings.Repeat("\x01a", 128) + "\x00", strings.Repeat("\x01a", 40000), strings.Repeat("\x00", 5000),
	}
}

func TestWrongNamesPut(t *testing.T) {
	for _, n := range noNames() {
		x := good()
		x.Name = n
		for part, m := range alone(x) {
			refusesPut(t, fmt.Sprintf("name %.20q in part %d", n, part), m, api.ErrWireForm)
		}
		q := api.Question{Name: root, Type: 1}
		refusesPut(t, "a second question", withQuestions(q, api.Question{Name: n, Type: 1}), api.ErrWireForm)
		refusesPut(t, "a first question", withQuestions(api.Question{Name: n, Type: 1}, q), api.ErrWireForm)
		for part := 1; part < 4; part++ {
			refusesPut(t, "a second record", withRecords(part, good(), x), api.ErrWireForm)
			refusesPut(t, "a first record", withRecords(part, x, good()), api.ErrWireForm)
		}
	}
	longest := strings.Repeat("\x01a", 127) + "\x00"
	for _, n := range []string{root, longest, nameOf(strings.Repeat("l", 63)), nameOf("\x00", "\xff\xc0", "A.b")} {
		x := good()
		x.Name = n
		for _, m := range alone(x) {
			if s, e := checkPut(t, m); s == "" || e != api.OK {
				t.Errorf("P7.1: name %.20q: %d", n, e)
			}
		}
	}
}

func TestWrongNamesRead(t *testing.T) {
	tail := [4]string{"\x00\x01\x00\x01"}
	for part := 1; part < 4; part++ {
		tail[part] = behindName(99, 1, 1, "abcd")
	}
	longest := strings.Repeat("\x01a", 127)
	for part := range 4 {
		for what, n := range map[string]string{
			"nothing": "", "a label without an end": "\x01a", "a label that is cut": "\x3fabc", "a pointer without its second byte": "\xc0",
			"a pointer to itself": point(12), "a pointer behind": point(13), "a pointer to what follows": point(14), "a pointer past the end": point(300),
			"the greatest pointer": point(16383), "labels, a pointer to themselves": "\x01a" + point(12), "labels, a pointer within them": "\x01a" + point(13),
			"labels, a pointer to itself": "\x01a" + point(14), "a first byte of 64": "\x40\x0c", "a first byte of 127": "\x7f\x0c", "a first byte of 128": "\x80\x0c", "a first byte of 191": "\xbf\x0c",
			"256 bytes": longest + "\x01\x00", "257 bytes": longest + "\x01a\x00",
		} {
			s := topOf(part, 1) + n + tail[part]
			if _, e := checkGet(t, s); e != api.ErrWireForm {
				t.Errorf("P7.2: %s in part %d: %d", what, part, e)
			}
		}
		// Places of the header that hold a byte 0 are names, and ahead.
		reads(t, "a pointer to the header", topOf(part, 1)+point(0)+tail[part], alone(api.Rr{Name: root, Type: tailType(part), Class: 1, Ttl: 1, Data: "abcd"})[part])
		reads(t, "a name of 255 bytes", topOf(part, 1)+longest+root+tail[part], alone(api.Rr{Name: longest + root, Type: tailType(part), Class: 1, Ttl: 1, Data: "abcd"})[part])
		reads(t, "a name of 255 bytes by a pointer", topOf(part, 1)+longest+point(1)+tail[part], alone(api.Rr{Name: longest + root, Type: tailType(part), Class: 1, Ttl: 1, Data: "abcd"})[part])
	}
}

// The bytes that a pointer leads to count for a name's length.
func TestLongNamesByPointers(t *testing.T) {
	for part := range 4 {
		tail := "\x00\x01\x00\x01"
		if part > 0 {
			tail = behindName(99, 1, 1, "abcd")
		}
		s := topOf(part, 2) + nameOf("b") + tail
		for _, c := range []struct {
			labels string
			ok     bool
		}{{strings.Repeat("\x01a", 126), true}, {"\x02aa" + strings.Repeat("\x01a", 125), false}, {strings.Repeat("\x01a", 127), false}} {
			_, e := checkGet(t, s+c.labels+point(12)+tail)
			if c.ok != (e == api.OK) {
				t.Errorf("P7.2: %d bytes in part %d: %d", len(c.labels)+3, part, e)
			}
		}
	}
}

// tailType gives the type that the items of TestWrongNamesRead have.
func tailType(part int) int {
	if part == 0 {
		return 1
	}
	return 99
}

// Pointers lead to pointers; names are told as they stand, in the case of their letters.
func TestPointersToPointers(t *testing.T) {
	tail := "\x00\x01\x00\x01"
	s := topOf(0, 4) + "\x01A\x01b\x00" + tail + point(12) + tail + point(21) + tail + "\x01a" + point(27) + tail
	q := func(n string) api.Question { return api.Question{Name: n, Type: 1, Class: 1} }
	reads(t, "pointers to pointers", s, withQuestions(q(nameOf("A", "b")), q(nameOf("A", "b")), q(nameOf("A", "b")), q(nameOf("a", "A", "b"))))
	checkGet(t, s)
}

// someName gives a name, likely one that shares its end with others.
func someName(r *rand.Rand) string {
	out := ""
	for range r.Intn(5) {
		l := []string{"a", "b", "A", "Bc", "ab", "x\x00", "\xc0\x0c", strings.Repeat("m", 63)}[r.Intn(8)]
		out += string([]byte{byte(len(l))}) + l
	}
	return out + root
}

func someBytes(r *rand.Rand, n int) string {
	b := make([]byte, n)
	r.Read(b)
	return string(b)
}

func someData(r *rand.Rand, t int) string {
	switch t {
	case 1:
		return someBytes(r, 4)
	case 28:
		return someBytes(r, 16)
	case 2, 5, 12:
		return someName(r)
	case 15:
		return someBytes(r, 2) + someName(r)
	case 6:
		return someName(r) + someName(r) + someBytes(r, 20)
	case 16:
		n := r.Intn(20)
		return string([]byte{byte(n)}) + someBytes(r, n) + strings.Repeat("\x00", r.Intn(3))
	}
	if r.Intn(20) == 0 {
		return someBytes(r, r.Intn(3000))
	}
	return someBytes(r, r.Intn(30))
}

// someNumber gives one from 0 to top, likely at an edge and, at times, wrong.
func someNumber(r *rand.Rand, top int, wrong bool) int {
	switch r.Intn(4) {
	case 0:
		return []int{0, 1, top - 1, top}[r.Intn(4)]
	case 1:
		if wrong && r.Intn(10) == 0 {
			return []int{-1, top + 1, -top - 1, math.MinInt, math.MaxInt, 1<<32 + 1}[r.Intn(6)]
		}
	}
	return r.Intn(top + 1)
}

func someRecords(r *rand.Rand, most int, wrong bool) []api.Rr {
	var out []api.Rr
	for range r.Intn(most + 1) {
		t := []int{1, 2, 5, 6, 12, 15, 16, 28, 41, 99, 255, 65535}[r.Intn(12)]
		x := api.Rr{Name: someName(r), Type: t, Class: someNumber(r, 65535, wrong), Ttl: someNumber(r, 1<<32-1, wrong), Data: someData(r, t)}
		if wrong && r.Intn(60) == 0 {
			x.Type = someNumber(r, 65535, true)
		}
		if wrong && r.Intn(60) == 0 {
			x.Name = noNames()[r.Intn(len(noNames()))]
		}
		out = append(out, x)
	}
	return out
}

func someMessage(r *rand.Rand, wrong bool) api.Msg {
	flag := func() bool { return r.Intn(2) == 0 }
	m := api.Msg{Head: api.Head{Id: r.Intn(65536), Qr: flag(), Op: r.Intn(16), Aa: flag(), Tc: flag(), Rd: flag(), Ra: flag(), Z: r.Intn(8), Rcode: r.Intn(16)}}
	if wrong && r.Intn(20) == 0 {
		m.Head.Op = someNumber(r, 15, true)
	}
	for range r.Intn(4) {
		m.Qs = append(m.Qs, api.Question{Name: someName(r), Type: max(1, someNumber(r, 65535, false)), Class: someNumber(r, 65535, wrong)})
	}
	most := []int{1, 4, 9, 66}[r.Intn(4)]
	m.An, m.Ns, m.Ar = someRecords(r, most, wrong), someRecords(r, most, wrong), someRecords(r, min(most, 5), wrong)
	return m
}

func TestSomeMessages(t *testing.T) {
	r := rand.New(rand.NewSource(7))
	seen := map[api.Errno]int{}
	for i := range 6000 {
		_, e := checkPut(t, someMessage(r, i%2 == 0))
		seen[e]++
	}
	if seen[api.OK] < 1500 || seen[api.ErrWireForm] < 500 || seen[api.ErrWireLong] < 200 {
		t.Errorf("not enough of each kind: %v", seen)
	}
}

// Bytes of messages, of which some are changed, left out or doubled.
func TestSomeBytes(t *testing.T) {
	r := rand.New(rand.NewSource(77))
	seen := map[api.Errno]int{}
	for range 6000 {
		s, e := wire.Put(someMessage(r, false))
		if e != api.OK {
			continue
		}
		b := []byte(s)
		for range r.Intn(3) {
			at := r.Intn(len(b))
			switch r.Intn(6) {
			case 0:
				b[at] = byte(r.Intn(256))
			case 1:
				b[at] ^= 1 << r.Intn(8)
			case 2:
				copy(b[at:], point(r.Intn(len(b))))
			case 3:
				copy(b[at:], []string{"\x00", "\x01", "\x00\x00", "\x00\x02", "\xff"}[r.Intn(5)])
			case 4:
				b = slices.Delete(b, at, min(at+1+r.Intn(3), len(b)))
			case 5:
				b = slices.Insert(b, at, b[at:min(at+1+r.Intn(12), len(b))]...)
			}
			if len(b) == 0 {
				break
			}
		}
		_, e = checkGet(t, string(b))
		seen[e]++
	}
	if seen[api.OK] < 1000 || seen[api.ErrWireForm] < 1000 {
		t.Errorf("not enough of each kind: %v", seen)
	}
}

// Every value of each byte of an ordinary message.
func TestEveryByte(t *testing.T) {
	for _, c := range ordinary() {
		for at := range len(c.s) {
			for x := range 256 {
				b := []byte(c.s)
				b[at] = byte(x)
				checkGet(t, string(b))
			}
		}
	}
}

// What is handed in is as it was, its spare room too.
func TestArgumentsAreNotChanged(t *testing.T) {
	spareQ := []api.Question{{Name: nameOf("a"), Type: 1, Class: 1}, {Name: "spare", Type: -1, Class: -1}}
	spareR := func() []api.Rr { return []api.Rr{good(), {Name: "spare", Type: -1, Data: "spare"}} }
	an, ns, ar := spareR(), spareR(), spareR()
	m := api.Msg{Qs: spareQ[:1], An: an[:1], Ns: ns[:1], Ar: ar[:1]}
	if _, e := wire.Put(m); e != api.OK {
		t.Fatalf("P7.1: %d", e)
	}
	want := []api.Question{{Name: nameOf("a"), Type: 1, Class: 1}, {Name: "spare", Type: -1, Class: -1}}
	if !reflect.DeepEqual(spareQ, want) || !reflect.DeepEqual(an, spareR()) || !reflect.DeepEqual(ns, spareR()) || !reflect.DeepEqual(ar, spareR()) {
		t.Errorf("P7.1: the message was changed: %+v", m)
	}
}

// shares says whether two strings lie in one piece of memory.
func shares(a, b string) bool {
	if a == "" || b == "" {
		return false
	}
	from, to := uintptr(unsafe.Pointer(unsafe.StringData(a))), uintptr(unsafe.Pointer(unsafe.StringData(b)))
	return from < to+uintptr(len(b)) && to < from+uintptr(len(a))
}

func TestNewMemory(t *testing.T) {
	for _, c := range ordinary() {
		s := strings.Clone(c.s)
		m, _ := wire.Get(s)
		again, _ := wire.Get(s)
		for part := 1; part < 4; part++ {
			one, other := *partOf(&m, part), *partOf(&again, part)
			for i := range one {
				if shares(one[i].Name, s) || shares(one[i].Data, s) || len(one[i].Data) > 1 && shares(one[i].Data, other[i].Data) {
					t.Errorf("P7.2: %s: a record shares memory: %s", c.what, tell(one[i]))
				}
			}
		}
		for _, q := range m.Qs {
			if shares(q.Name, s) {
				t.Errorf("P7.2: %s: a question shares memory: %s", c.what, tell(q))
			}
		}
		a, _ := wire.Put(c.m)
		b, _ := wire.Put(c.m)
		if shares(a, b) {
			t.Errorf("P7.1: %s: two answers share memory", c.what)
		}
	}
}

// The lists of one answer share no room, so that what is added to one is not seen in another.
func TestListsShareNothing(t *testing.T) {
	s := top(3, 3, 3, 3) + strings.Repeat(root+"\x00\x01\x00\x01", 3) + strings.Repeat(root+behindName(99, 1, 1, "abcd"), 9)
	m, e := wire.Get(s)
	if e != api.OK {
		t.Fatalf("P7.2: %d", e)
	}
	for part := 1; part < 4; part++ {
		list := *partOf(&m, part)
		all := list[:cap(list)]
		for i := range all {
			all[i] = api.Rr{Ttl: part}
		}
	}
	for part := 1; part < 4; part++ {
		for _, x := range *partOf(&m, part) {
			if x.Ttl != part {
				t.Errorf("P7.2: part %d shares room: %+v", part, x)
			}
		}
	}
}

func TestSeveralGoroutines(t *testing.T) {
	var all sync.WaitGroup
	for g := range 8 {
		all.Go(func() {
			r := rand.New(rand.NewSource(int64(g)))
			for range 200 {
				m := someMessage(r, false)
				s, e := wire.Put(m)
				if e != api.OK {
					continue
				}
				if back, f := wire.Get(s); !same(back, m) || f != api.OK {
					t.Errorf("P7.3: %s: %s, %d", tell(m), tell(back), f)
					return
				}
			}
		})
	}
	all.Wait()
}

// What costs most: pointers that lead to pointers, in each name and in all data, and parts and data beyond all bounds.
func TestItEndsSoon(t *testing.T) {
	began := time.Now()
	const chainAt = 12 + 1 + 10
	chain := root + point(chainAt)
	for len(chain) < 1500 {
		chain += point(chainAt + len(chain) - 2)
	}
	last := point(chainAt + len(chain) - 2)
	record := last + behindName(2, 1, 1, last)
	s := top(0, 64, 64, 56) + root + behindName(99, 1, 1, chain) + strings.Repeat(record, 183)
	if len(s) > api.MaxMessage {
		t.Fatalf("%d bytes", len(s))
	}
	for range 20 {
		if m, e := wire.Get(s); e != api.OK || m.Ar[55].Data != root {
			t.Fatalf("P7.2: %s, %d", tell(m), e)
		}
	}
	huge := strings.Repeat("\x01a", 1<<24)
	for range 20 {
		refusesPut(t, "a great name", withRecords(1, api.Rr{Name: huge, Type: 99}), api.ErrWireForm)
		refusesPut(t, "great data", withRecords(1, api.Rr{Name: root, Type: 99, Data: huge}), api.ErrWireForm)
		refusesPut(t, "a great text", withRecords(1, api.Rr{Name: root, Type: 16, Data: huge}), api.ErrWireForm)
		refusesPut(t, "great names", withRecords(1, api.Rr{Name: root, Type: 6, Data: huge}), api.ErrWireForm)
		refusesPut(t, "many", withRecords(1, make([]api.Rr, 1<<16)...), api.ErrWireForm)
		refusesGet(t, "many bytes", huge, api.ErrWireLong)
	}
	if took := time.Since(began); took > 20*time.Second {
		t.Errorf("it took %v", took)
	}
}

func FuzzMessages(f *testing.F) {
	f.Add("", "", 0, 0, 0, "")
	for _, c := range ordinary() {
		f.Add(c.s, nameOf("a", "b"), 2, 1, 5, nameOf("b"))
	}
	f.Add(top(1, 0, 0, 0)+root+"\x00\x00\x00\x00", nameOf("a"), 0, 65536, 1<<32, "abcd")
	f.Fuzz(func(t *testing.T, s, n string, kind, class, ttl int, data string) {
		checkGet(t, s)
		x := api.Rr{Name: n, Type: kind, Class: class, Ttl: ttl, Data: data}
		for _, m := range alone(x) {
			if out, e := checkPut(t, m); e == api.OK {
				checkGet(t, out)
			}
		}
		checkPut(t, withRecords(2, x, x))
	})
}
