package match_test

import (
	"fmt"
	"math/rand"
	"slices"
	"strings"
	"testing"
	"time"

	"wimple/api"
	"wimple/match"
	"wimple/opt"
	"wimple/wire"
)

const root = "\x00"

// named gives the name of the labels that stand between dots.
func named(s string) string {
	out := ""
	for _, label := range strings.Split(s, ".") {
		out += string([]byte{byte(len(label))}) + label
	}
	return out + root
}

// two gives a number's two bytes.
func two(x int) string {
	return string([]byte{byte(x / 256), byte(x % 256)})
}

// rr gives a record's bytes.
func rr(n string, t, class int, data string) string {
	return n + two(t) + two(class) + "\x00\x00\x00\x3c" + two(len(data)) + data
}

// question gives a question's bytes.
func question(n string, t, class int) string {
	return n + two(t) + two(class)
}

// bytesOf gives a message's bytes: an Id of 7, the word behind it, its counts, the rest.
func bytesOf(word int, counts [4]int, rest string) string {
	s := "\x00\x07" + two(word)
	for _, c := range counts {
		s += two(c)
	}
	return s + rest
}

// tell shortens what is told of bytes or a message.
func tell(x any) string {
	s := fmt.Sprintf("%+q", fmt.Sprintf("%+v", x))
	if len(s) > 300 {
		return s[:300] + ".."
	}
	return s
}

// same says whether two messages are, an empty list and nil being one.
func same(a, b api.Msg) bool {
	return a.Head == b.Head && slices.Equal(a.Qs, b.Qs) && slices.Equal(a.An, b.An) && slices.Equal(a.Ns, b.Ns) && slices.Equal(a.Ar, b.Ar)
}

// wantReply is P20.1, what is asked of the message being read off its bytes: Qr and Op are the third one's upper five bits, the count of questions is the fifth and the sixth.
func wantReply(s string) (api.Msg, api.Errno) {
	m, e := wire.Get(s)
	if e == api.OK && s[2]/8 == 16 && s[4:6] == "\x00\x01" {
		return m, api.OK
	}
	return api.Msg{}, api.ErrMatchForm
}

// check holds Reply against P20.1.
func check(t *testing.T, s string) (api.Msg, api.Errno) {
	t.Helper()
	m, e := match.Reply(s)
	if want, f := wantReply(s); !same(m, want) || e != f {
		t.Fatalf("P20.1: Reply(%s) = %s, %d, want %s, %d", tell(s), tell(m), e, tell(want), f)
	}
	return m, e
}

// takes says that the bytes are the reply.
func takes(t *testing.T, what string, s string, want api.Msg) {
	t.Helper()
	if m, e := match.Reply(s); !same(m, want) || e != api.OK {
		t.Errorf("P20.1: %s: %s, %d, want %s", what, tell(m), e, tell(want))
	}
}

// refuses says that the bytes are no reply, and that nothing stands beside the error.
func refuses(t *testing.T, what string, s string) {
	t.Helper()
	m, e := match.Reply(s)
	if m.Head != (api.Head{}) || m.Qs != nil || m.An != nil || m.Ns != nil || m.Ar != nil || e != api.ErrMatchForm {
		t.Errorf("P20.1: %s: %s, %d, want %d with nothing beside it", what, tell(m), e, api.ErrMatchForm)
	}
}

// put gives a message's bytes.
func put(t *testing.T, m api.Msg) string {
	t.Helper()
	s, e := wire.Put(m)
	if e != api.OK {
		t.Fatalf("P7.1: %s: %d", tell(m), e)
	}
	return s
}

// asked gives a reply that says nothing but what was asked.
func asked() api.Msg {
	q := api.Question{Name: named("www.example"), Type: api.TypeA, Class: api.ClassIn}
	return api.Msg{Head: api.Head{Id: 7, Qr: true}, Qs: []api.Question{q}}
}

// record gives one of a name and type.
func record(n string, t int, data string) api.Rr {
	return api.Rr{Name: n, Type: t, Class: api.ClassIn, Ttl: 60, Data: data}
}

// replies gives replies of the kinds that servers send.
func replies() map[string]api.Msg {
	www, example, ns := named("www.example"), named("example"), named("ns.example")
	soa := ns + named("mail.example") + strings.Repeat("\x00\x00\x0e\x10", 5)
	size, _ := opt.Put(api.Opt{Size: api.Payload, Options: []api.Option{{Code: api.OptPadding, Data: "\x00\x00\x00"}}})

	answer := asked()
	answer.Head.Aa = true
	answer.An = []api.Rr{record(www, api.TypeA, "\xc0\x00\x02\x01"), record(www, api.TypeA, "\xc0\x00\x02\x02")}
	answer.Ar = []api.Rr{size}

	refers := asked()
	refers.Ns = []api.Rr{record(example, api.TypeNs, ns), record(example, api.TypeNs, named("ns2.example"))}
	refers.Ar = []api.Rr{record(ns, api.TypeA, "\xc0\x00\x02\x03"), record(ns, api.TypeAaaa, "0123456789abcdef")}

	cname := asked()
	cname.An = []api.Rr{record(www, api.TypeCname, named("web.test"))}

	nodata := asked()
	nodata.Ns = []api.Rr{record(example, api.TypeSoa, soa)}

	nx := asked()
	nx.Head.Rcode = api.RcodeNx
	nx.Ns = []api.Rr{record(example, api.TypeSoa, soa)}

	letters := asked()
	letters.Qs[0].Name = named("wWw.ExAmPlE")
	letters.An = []api.Rr{record(named("WWW.example"), 4711, "any data")}

	below := asked()
	below.Qs[0] = api.Question{Name: root, Type: api.TypeNs, Class: api.ClassIn}
	below.An = []api.Rr{record(root, api.TypeNs, named("a.root"))}

	return map[string]api.Msg{
		"an answer":      answer,
		"a referral":     refers,
		"a cname":        cname,
		"no data":        nodata,
		"no name":        nx,
		"mixed letters":  letters,
		"of the root":    below,
		"nothing at all": asked(),
	}
}

func TestOrdinaryReplies(t *testing.T) {
	for what, m := range replies() {
		takes(t, what, put(t, m), m)
	}
}

// The bytes of one reply, written out.
func TestReplyWrittenOut(t *testing.T) {
	s := "\x12\x34\x84\x03\x00\x01\x00\x01\x00\x00\x00\x00" + "\x03www\x07example\x00\x00\x01\x00\x01" +
		"\xc0\x0c\x00\x05\x00\x01\x00\x00\x00\x3c\x00\x07\x04blog\xc0\x10"
	www, blog := named("www.example"), named("blog.example")
	takes(t, "compressed", s, api.Msg{
		Head: api.Head{Id: 0x1234, Qr: true, Aa: true, Rcode: 3},
		Qs:   []api.Question{{Name: www, Type: 1, Class: 1}},
		An:   []api.Rr{{Name: www, Type: 5, Class: 1, Ttl: 60, Data: blog}},
	})
}

// Each of the 2^16 words of bits: those with Qr and an Op of 0 are told whatever the others are, and no others.
func TestEachWordOfTheHead(t *testing.T) {
	rests := []struct {
		counts [4]int
		rest   string
	}{
		{[4]int{1, 0, 0, 0}, question(named("a"), 1, 1)},
		{[4]int{1, 1, 1, 1}, question(named("a"), 1, 1) + strings.Repeat(rr(root, 1, 1, "abcd"), 3)},
	}
	taken := 0
	for _, x := range rests {
		for word := range 1 << 16 {
			s := bytesOf(word, x.counts, x.rest)
			m, e := check(t, s)
			if e != api.OK {
				continue
			}
			taken++
			h := api.Head{Id: 7, Qr: true, Z: word / 16 % 8, Rcode: word % 16}
			h.Aa, h.Tc, h.Rd, h.Ra = word/1024%2 == 1, word/512%2 == 1, word/256%2 == 1, word/128%2 == 1
			if word/2048 != 16 || m.Head != h || len(m.Qs) != 1 || len(m.An) != x.counts[1] {
				t.Fatalf("P20.1: %016b: %s", word, tell(m))
			}
		}
	}
	if want := 2 * (1 << 11); taken != want {
		t.Errorf("P20.1: %d words were taken, want %d", taken, want)
	}
}

func TestEachRcode(t *testing.T) {
	for what, m := range replies() {
		for rcode := range 16 {
			m.Head.Rcode = rcode
			takes(t, fmt.Sprint(what, ", Rcode ", rcode), put(t, m), m)
		}
	}
}

func TestEachId(t *testing.T) {
	m := asked()
	for id := range 1 << 16 {
		m.Head.Id = id
		takes(t, "an Id", put(t, m), m)
	}
}

// The other bits of the head turn nothing, one by one and all of them.
func TestOtherBits(t *testing.T) {
	bits := []func(h *api.Head){
		func(h *api.Head) { h.Aa = true },
		func(h *api.Head) { h.Tc = true },
		func(h *api.Head) { h.Rd = true },
		func(h *api.Head) { h.Ra = true },
		func(h *api.Head) { h.Z = 1 },
		func(h *api.Head) { h.Z = 7 },
		func(h *api.Head) { h.Rcode = 15 },
		func(h *api.Head) { h.Id = 65535 },
	}
	for what, m := range replies() {
		for i, set := range bits {
			one := m
			set(&one.Head)
			takes(t, fmt.Sprint(what, ", bit ", i), put(t, one), one)
		}
		for _, set := range bits {
			set(&m.Head)
		}
		takes(t, what+", all bits", put(t, m), m)
	}
}

// What is no reply, though layer 7 finds a message in it.
func TestNoReplies(t *testing.T) {
	for what, m := range replies() {
		query := m
		query.Head.Qr = false
		refuses(t, what+", without Qr", put(t, query))
		for op := 1; op < 16; op++ {
			other := m
			other.Head.Op = op
			refuses(t, fmt.Sprint(what, ", Op ", op), put(t, other))
			other.Head.Qr = false
			refuses(t, fmt.Sprint(what, ", without Qr, Op ", op), put(t, other))
		}
		none := m
		none.Qs = nil
		refuses(t, what+", no question", put(t, none))
	}
}

// Just one question: alike ones are several too, up to as many as a message has, and beyond.
func TestCountsOfQuestions(t *testing.T) {
	own, other := question(root, 2, 1), question(named("a"), 1, 1)
	for count := range 70 {
		for _, records := range []int{0, 1} {
			rest := strings.Repeat(rr(root, 1, 1, "abcd"), records)
			counts := [4]int{count, records, 0, 0}
			alike := bytesOf(0x8000, counts, strings.Repeat(own, count)+rest)
			if count == 1 {
				if _, e := check(t, alike); e != api.OK {
					t.Errorf("P20.1: one question: %d", e)
				}
				continue
			}
			refuses(t, fmt.Sprint(count, " alike questions"), alike)
			if count > 1 {
				mixed := strings.Repeat(own, count-1) + other
				refuses(t, fmt.Sprint(count, " questions"), bytesOf(0x8000, counts, mixed+rest))
			}
		}
	}
	for _, count := range []int{0x0100, 0x0101, 0x0201, 0x8001, 0xffff} {
		refuses(t, fmt.Sprint(count, " questions are counted"), bytesOf(0x8000, [4]int{count, 0, 0, 0}, own))
		refuses(t, fmt.Sprint(count, " questions"), bytesOf(0x8000, [4]int{count, 0, 0, 0}, strings.Repeat(own, min(count, 800))))
	}
}

// What the question asks turns nothing, nor do the records: that is asked by layers behind this one.
func TestAnyQuestion(t *testing.T) {
	for _, kind := range []int{1, 2, 41, 255, 256, 65535} {
		for _, class := range []int{0, 1, 2, 3, 4, 254, 255, 256, 65535} {
			m := asked()
			m.Qs[0].Type, m.Qs[0].Class = kind, class
			takes(t, "a question", put(t, m), m)
			m.An = []api.Rr{{Name: named("other"), Type: 99, Class: class, Ttl: 1<<32 - 1}}
			m.Ns, m.Ar = m.An, m.An
			takes(t, "records of others", put(t, m), m)
		}
	}
}

func TestTooFewForAHead(t *testing.T) {
	s := put(t, asked())
	for k := range 12 {
		refuses(t, fmt.Sprint(k, " bytes"), s[:k])
		refuses(t, fmt.Sprint(k, " bytes, all set"), strings.Repeat("\xff", k))
		refuses(t, fmt.Sprint(k, " bytes, all clear"), strings.Repeat("\x00", k))
	}
	refuses(t, "a head alone that counts one", bytesOf(0x8000, [4]int{1, 0, 0, 0}, ""))
	refuses(t, "a head alone that counts none", bytesOf(0x8000, [4]int{}, ""))
}

// Cut off at each place: in the head, in the question, in each record.
func TestCutAtEachPlace(t *testing.T) {
	for what, m := range replies() {
		s := put(t, m)
		for k := range s {
			refuses(t, fmt.Sprint(what, ", cut at ", k), s[:k])
		}
	}
}

// One byte more than a message has, whichever, and more of them.
func TestBytesBehind(t *testing.T) {
	for what, m := range replies() {
		s := put(t, m)
		for c := range 256 {
			refuses(t, fmt.Sprint(what, ", behind it ", c), s+string([]byte{byte(c)}))
		}
		refuses(t, what+", twice", s+s)
		refuses(t, what+", a question behind it", s+question(root, 1, 1))
		refuses(t, what+", a record behind it", s+rr(root, 1, 1, "abcd"))
	}
}

// What layer 7 finds wrong in a question or in a record, in a message that is otherwise a reply.
func TestWrongParts(t *testing.T) {
	one := question(named("a"), 1, 1)
	questions := map[string]string{
		"a type 0":              question(named("a"), 0, 1),
		"a label of 64":         question("\x40"+strings.Repeat("a", 64)+root, 1, 1),
		"a pointer to itself":   question("\xc0\x0c", 1, 1),
		"a pointer ahead":       question("\xc0\x20", 1, 1),
		"a name without an end": question("\x01a", 1, 1),
		"a name of 257":         question(strings.Repeat("\x01a", 128)+root, 1, 1),
	}
	for what, q := range questions {
		refuses(t, what, bytesOf(0x8000, [4]int{1, 0, 0, 0}, q))
	}
	records := map[string]string{
		"a type 0":              rr(root, 0, 1, ""),
		"an address of 3":       rr(root, api.TypeA, 1, "abc"),
		"no data of a name":     rr(root, api.TypeNs, 1, ""),
		"two names for one":     rr(root, api.TypeCname, 1, root+root),
		"a cut text":            rr(root, api.TypeTxt, 1, "\x05abc"),
		"a soa without numbers": rr(root, api.TypeSoa, 1, root+root),
		"a length beyond":       root + two(99) + two(1) + "\x00\x00\x00\x00" + two(9) + "abcd",
		"a length too small":    root + two(99) + two(1) + "\x00\x00\x00\x00" + two(3) + "abcd",
		"a name without an end": rr("\x01a", 99, 1, ""),
	}
	for what, r := range records {
		for part := 1; part < 4; part++ {
			counts := [4]int{1}
			counts[part] = 1
			refuses(t, fmt.Sprint(what, " in part ", part), bytesOf(0x8000, counts, one+r))
		}
	}
	for part := 1; part < 4; part++ {
		for count := range 70 {
			counts := [4]int{1}
			counts[part] = count
			s := bytesOf(0x8000, counts, one+strings.Repeat(rr(root, 99, 1, ""), count))
			if _, e := check(t, s); (e == api.OK) != (count <= api.MaxRrs) {
				t.Errorf("P20.1: %d records in part %d: %d", count, part, e)
			}
		}
	}
}

// Of the greatest size, and one byte more: what layer 7 finds too long is no reply either.
func TestLongest(t *testing.T) {
	for _, size := range []int{4095, 4096, 4097, 5000, 65535, 65536, 1 << 20} {
		first := bytesOf(0x8000, [4]int{1, 1, 0, 0}, question(root, 1, 1))
		first += root + two(99) + two(1) + "\x00\x00\x00\x00"
		data := size - len(first) - 2
		s := first + two(data%65536) + strings.Repeat("d", data)
		if m, e := check(t, s); (e == api.OK) != (size <= api.MaxMessage) || e == api.OK && len(m.An[0].Data) != data {
			t.Errorf("P20.1: %d bytes: %d", size, e)
		}
	}
}

// A reply whose names, told whole, have no room in a message any more is one still.
func TestTooLongToBePutAgain(t *testing.T) {
	long := strings.Repeat("\x3f"+strings.Repeat("a", 63), 3) + "\x3d" + strings.Repeat("b", 61) + root
	s := bytesOf(0x8000, [4]int{1, 64, 0, 0}, question(long, 1, 1)+strings.Repeat(rr("\xc0\x0c", api.TypeNs, 1, "\xc0\x0c"), 64))
	m, e := check(t, s)
	if e != api.OK || len(m.An) != 64 || m.An[63].Data != long {
		t.Fatalf("P20.1: %s, %d", tell(m), e)
	}
	if _, e := wire.Put(m); e != api.ErrWireLong {
		t.Errorf("P7.1: %d", e)
	}
}

// Several faults at once are one error, in twos and threes, with nothing beside it.
func TestFaultsTogether(t *testing.T) {
	one := question(named("a"), 1, 1)
	type form struct {
		word   int
		counts [4]int
		rest   string
		size   int
	}
	faults := []func(x *form){
		func(x *form) { x.word &^= 0x8000 },
		func(x *form) { x.word |= 0x0800 },
		func(x *form) { x.word |= 0x7800 },
		func(x *form) { x.counts[0] = 0 },
		func(x *form) { x.counts[0] += 1; x.rest = one + x.rest },
		func(x *form) { x.counts[0] += 2; x.rest = one + one + x.rest },
		func(x *form) { x.counts[3]++ },
		func(x *form) { x.counts[1] = 65 },
		func(x *form) { x.rest += "x" },
		func(x *form) { x.rest = question(root, 0, 1) + x.rest; x.counts[0]++ },
		func(x *form) { x.rest = x.rest[:len(x.rest)-1] },
		func(x *form) { x.rest += strings.Repeat("x", 4096) },
		func(x *form) { x.size = 11 },
		func(x *form) { x.size = 0 },
	}
	for i, a := range faults {
		for j, b := range faults {
			for k, c := range faults {
				x := form{0x8580, [4]int{1, 1, 0, 0}, one + rr(root, 1, 1, "abcd"), 1 << 20}
				a(&x)
				// A fault that is made twice may mend itself, or be another one.
				if j != i {
					b(&x)
				}
				if k != i && k != j {
					c(&x)
				}
				s := bytesOf(x.word, x.counts, x.rest)
				s = s[:min(len(s), x.size)]
				if _, e := wantReply(s); e == api.OK {
					continue // a byte more and a byte less
				}
				refuses(t, fmt.Sprint("faults ", i, j, k), s)
			}
		}
	}
}

// some gives bytes of a message, mostly a reply's, in which something may be changed.
func some(r *rand.Rand, all []string) string {
	b := []byte(all[r.Intn(len(all))])
	switch r.Intn(8) {
	case 0:
		b[r.Intn(len(b))] = byte(r.Intn(256))
	case 1:
		b[2+r.Intn(10)] ^= 1 << r.Intn(8)
	case 2:
		b = b[:r.Intn(len(b)+1)]
	case 3:
		b = append(b, byte(r.Intn(3)))
	case 4:
		for range 1 + r.Intn(4) {
			b[r.Intn(len(b))] ^= 1 << r.Intn(8)
		}
	case 5:
		b[3] = byte(r.Intn(256))
	}
	return string(b)
}

func TestSomeBytes(t *testing.T) {
	r := rand.New(rand.NewSource(201))
	var all []string
	for _, m := range replies() {
		all = append(all, put(t, m))
	}
	slices.Sort(all)
	taken, refused := 0, 0
	for range 100000 {
		if _, e := check(t, some(r, all)); e == api.OK {
			taken++
		} else {
			refused++
		}
	}
	if taken < 20000 || refused < 20000 {
		t.Errorf("not enough of each: %d, %d", taken, refused)
	}
}

// Each byte of a reply as each other one.
func TestEveryByte(t *testing.T) {
	for _, m := range replies() {
		s := put(t, m)
		for i := range s {
			for c := range 256 {
				b := []byte(s)
				b[i] = byte(c)
				check(t, string(b))
			}
		}
	}
}

// What costs most: bytes far too many, counts far too great, and pointers that lead to pointers.
func TestItEndsSoon(t *testing.T) {
	began := time.Now()
	huge := bytesOf(0x8000, [4]int{1, 1, 0, 0}, question(root, 1, 1)) + strings.Repeat("\x01a", 1<<24)
	counted := bytesOf(0x8000, [4]int{65535, 65535, 65535, 65535}, strings.Repeat(question(root, 1, 1), 800))
	const chainAt = 12 + 1 + 4 + 1 + 10
	chain := root + two(0xc000+chainAt)
	for len(chain) < 1500 {
		chain += two(0xc000 + chainAt + len(chain) - 2)
	}
	last := two(0xc000 + chainAt + len(chain) - 2)
	pointers := bytesOf(0x8000, [4]int{1, 64, 64, 40}, question(root, 1, 1)+rr(root, 99, 1, chain)+strings.Repeat(rr(last, api.TypeNs, 1, last), 167))
	for range 100 {
		refuses(t, "many bytes", huge)
		refuses(t, "great counts", counted)
		if m, e := match.Reply(pointers); e != api.OK || m.Ar[39].Data != root {
			t.Fatalf("P20.1: %s, %d", tell(m), e)
		}
	}
	if took := time.Since(began); took > 20*time.Second {
		t.Errorf("it took %v", took)
	}
}

func FuzzReplies(f *testing.F) {
	for _, m := range replies() {
		s, _ := wire.Put(m)
		f.Add(s)
	}
	f.Add("")
	f.Add(bytesOf(0x8000, [4]int{1, 0, 0, 0}, question(root, 0, 1)))
	f.Fuzz(func(t *testing.T, s string) {
		check(t, s)
	})
}
