package comp_test

import (
	"math"
	"math/rand/v2"
	"slices"
	"strings"
	"sync"
	"testing"
	"unsafe"

	"wimple/api"
	"wimple/comp"
	"wimple/name"
	"wimple/rdata"
)

// nameOf gives the name of the labels.
func nameOf(labels ...string) string {
	out := ""
	for _, l := range labels {
		out += string([]byte{byte(len(l))}) + l
	}
	return out + "\x00"
}

// labelsOf gives labels, without an end, of so many bytes, from 2 on.
func labelsOf(size int) string {
	out := ""
	for left := size; left > 0; {
		part := min(left, 64)
		if left-part == 1 {
			part--
		}
		out += string([]byte{byte(part - 1)}) + strings.Repeat("n", part-1)
		left -= part
	}
	return out
}

// filled gives so many bytes that are no name's.
func filled(size int) string {
	return strings.Repeat("\xff", size)
}

// point gives a pointer to the place.
func point(place int) string {
	return string([]byte{byte(192 + place/256), byte(place % 256)})
}

// shorts gives every string of at most so many of the pieces.
func shorts(pieces []string, most int) []string {
	out := []string{""}
	last := out
	for range most {
		var next []string
		for _, s := range last {
			for _, p := range pieces {
				next = append(next, s+p)
			}
		}
		out = append(out, next...)
		last = next
	}
	return out
}

// tell shortens bytes for a message.
func tell(s string) string {
	if len(s) > 80 {
		return s[:80] + ".."
	}
	return s
}

// readAt is P5.2 by recursion: what is read from at on, where the labels began at start and so many bytes may still come.
func readAt(s string, start, at, left int) (string, int, bool) {
	if at < 0 || at >= len(s) || left < 1 {
		return "", 0, false
	}
	c := int(s[at])
	switch {
	case c == 0:
		return "\x00", at + 1, true
	case c <= 63:
		if at+1+c > len(s) {
			return "", 0, false
		}
		rest, behind, ok := readAt(s, start, at+1+c, left-1-c)
		return s[at:at+1+c] + rest, behind, ok
	case c <= 191 || at+1 == len(s):
		return "", 0, false
	}
	to := (c-192)*256 + int(s[at+1])
	if to >= start {
		return "", 0, false
	}
	rest, _, ok := readAt(s, to, to, left)
	return rest, at + 2, ok
}

// read is P5.2.
func read(s string, at int) (string, int, bool) {
	n, behind, ok := readAt(s, at, at, 255)
	if !ok {
		return "", 0, false
	}
	return n, behind, true
}

// data is P5.3: the data is taken apart at the places that its type says.
func data(s string, at, size, t int) (string, bool) {
	if at < 0 || size < 0 || at > len(s) || size > len(s) || at+size > len(s) {
		return "", false
	}
	ahead, behind, count := 0, 0, 1
	switch t {
	case 2, 5, 12:
	case 15:
		ahead = 2
	case 6:
		behind, count = 20, 2
	default:
		return s[at : at+size], rdata.May(t, s[at:at+size])
	}
	if size < ahead+behind {
		return "", false
	}
	out, place := s[at:at+ahead], at+ahead
	for range count {
		n, next, ok := read(s, place)
		if !ok {
			return "", false
		}
		out, place = out+n, next
	}
	out += s[at+size-behind : at+size]
	return out, place == at+size-behind && rdata.May(t, out)
}

// model is P5.1 by search: it knows where labels were written out, and reads at each of these places what stands there.
type model struct {
	out    string
	places []int
}

func (m *model) raw(s string) api.Errno {
	if len(m.out)+len(s) > 4096 {
		return api.ErrCompLong
	}
	m.out += s
	return api.OK
}

func (m *model) name(n string) api.Errno {
	if !name.May(n) {
		return api.ErrCompForm
	}
	add, left := "", n
	var fresh []int
	for left != "" {
		at := slices.IndexFunc(m.places, func(place int) bool {
			stands, _, _ := read(m.out, place)
			return left != "\x00" && stands == left
		})
		if at >= 0 {
			add += point(m.places[at])
			break
		}
		if left != "\x00" {
			fresh = append(fresh, len(m.out)+len(add))
		}
		add += left[:1+left[0]]
		left = left[1+left[0]:]
	}
	if len(m.out)+len(add) > 4096 {
		return api.ErrCompLong
	}
	m.out += add
	m.places = append(m.places, fresh...)
	return api.OK
}

// pair holds a Writer against the model.
type pair struct {
	w *comp.Writer
	m model
}

func newPair() *pair {
	return &pair{w: comp.New()}
}

func (p *pair) raw(t *testing.T, s string) api.Errno {
	t.Helper()
	got, want := p.w.Raw(s), p.m.raw(s)
	p.check(t, s, got, want)
	return got
}

func (p *pair) name(t *testing.T, n string) api.Errno {
	t.Helper()
	got, want := p.w.Name(n), p.m.name(n)
	p.check(t, n, got, want)
	return got
}

func (p *pair) check(t *testing.T, s string, got, want api.Errno) {
	t.Helper()
	if all := p.w.All(); got != want || all != p.m.out {
		t.Fatalf("P5.1: with %q: %d, %q of %d bytes, want %d, %q of %d", tell(s), got, tell(all), len(all), want, tell(p.m.out), len(p.m.out))
	}
}

func checkName(t *testing.T, s string, at int) {
	t.Helper()
	want, wantBehind, ok := read(s, at)
	wantE := api.ErrCompForm
	if ok {
		wantE = api.OK
	}
	if n, behind, e := comp.Name(s, at); n != want || behind != wantBehind || e != wantE {
		t.Fatalf("P5.2: Name(%q of %d bytes, %d) = %q, %d, %d, want %q, %d, %d", tell(s), len(s), at, n, behind, e, want, wantBehind, wantE)
	}
}

func checkData(t *testing.T, s string, at, size, kind int) {
	t.Helper()
	want, ok := data(s, at, size, kind)
	wantE := api.OK
	if !ok {
		want, wantE = "", api.ErrCompForm
	}
	if got, e := comp.Data(s, at, size, kind); got != want || e != wantE {
		t.Fatalf("P5.3: Data(%q of %d bytes, %d, %d, %d) = %q, %d, want %q, %d", tell(s), len(s), at, size, kind, tell(got), e, tell(want), wantE)
	}
}

// wantName asks for a name by what a test says itself, and by the model.
func wantName(t *testing.T, s string, at int, n string, behind int) {
	t.Helper()
	if got, to, e := comp.Name(s, at); got != n || to != behind || e != api.OK {
		t.Errorf("P5.2: Name(%q of %d bytes, %d) = %q, %d, %d, want %q, %d", tell(s), len(s), at, got, to, e, n, behind)
	}
	checkName(t, s, at)
}

func wantNoName(t *testing.T, s string, at int) {
	t.Helper()
	if n, to, e := comp.Name(s, at); n != "" || to != 0 || e != api.ErrCompForm {
		t.Errorf("P5.2: Name(%q of %d bytes, %d) = %q, %d, %d", tell(s), len(s), at, n, to, e)
	}
	checkName(t, s, at)
}

func wantData(t *testing.T, s string, at, size, kind int, want string) {
	t.Helper()
	if got, e := comp.Data(s, at, size, kind); got != want || e != api.OK {
		t.Errorf("P5.3: Data(%q of %d bytes, %d, %d, %d) = %q, %d, want %q", tell(s), len(s), at, size, kind, tell(got), e, tell(want))
	}
	checkData(t, s, at, size, kind)
}

func wantNoData(t *testing.T, s string, at, size, kind int) {
	t.Helper()
	if got, e := comp.Data(s, at, size, kind); got != "" || e != api.ErrCompForm {
		t.Errorf("P5.3: Data(%q of %d bytes, %d, %d, %d) = %q, %d", tell(s), len(s), at, size, kind, tell(got), e)
	}
	checkData(t, s, at, size, kind)
}

// ends gives numbers at the ends of int and about s's own.
func ends(s string) []int {
	return []int{
		math.MinInt, math.MinInt + 1, math.MinInt32, -65536, -2, -1, 0, 1, len(s) - 1, len(s), len(s) + 1, len(s) + 2,
		16383, 16384, math.MaxInt32, 1 << 32, math.MaxInt - len(s), math.MaxInt - 2, math.MaxInt - 1, math.MaxInt,
	}
}

func TestWrittenNames(t *testing.T) {
	for _, c := range []struct {
		names []string
		want  string
	}{
		{nil, ""},
		{[]string{nameOf()}, "\x00"},
		{[]string{nameOf(), nameOf(), nameOf()}, "\x00\x00\x00"},
		{[]string{nameOf("www", "Example")}, "\x03www\x07Example\x00"},
		{[]string{nameOf("a", "b"), nameOf("a", "b")}, "\x01a\x01b\x00\xc0\x00"},
		{[]string{nameOf("a", "b"), nameOf("b")}, "\x01a\x01b\x00\xc0\x02"},
		{[]string{nameOf("a", "b"), nameOf("c", "b")}, "\x01a\x01b\x00\x01c\xc0\x02"},
		{[]string{nameOf("a", "b"), nameOf()}, "\x01a\x01b\x00\x00"},
		{[]string{nameOf("a", "b"), nameOf("a")}, "\x01a\x01b\x00\x01a\x00"},
		{[]string{nameOf("a", "b"), nameOf("a", "B")}, "\x01a\x01b\x00\x01a\x01B\x00"},
		{[]string{nameOf("a", "b"), nameOf("A", "b")}, "\x01a\x01b\x00\x01A\xc0\x02"},
		{[]string{nameOf("a", "a")}, "\x01a\x01a\x00"},
		{[]string{nameOf("a", "a"), nameOf("a"), nameOf("a", "a", "a")}, "\x01a\x01a\x00\xc0\x02\x01a\xc0\x00"},
		// The rest that a pointer ends is pointed to where its label was written out, not where the pointer stands.
		{[]string{nameOf("b"), nameOf("a", "b"), nameOf("b"), nameOf("a", "b"), nameOf("c", "a", "b")}, "\x01b\x00\x01a\xc0\x00\xc0\x00\xc0\x03\x01c\xc0\x03"},
		// A pointer counts neither as the place of the name that it is.
		{[]string{nameOf("b"), nameOf("b"), nameOf("b")}, "\x01b\x00\xc0\x00\xc0\x00"},
		// A label that looks like a name, or a name's rest, is none.
		{[]string{nameOf("\x01a"), nameOf("a")}, "\x02\x01a\x00\x01a\x00"},
		{[]string{nameOf("x\x01a"), nameOf("a")}, "\x03x\x01a\x00\x01a\x00"},
	} {
		p := newPair()
		for _, n := range c.names {
			if e := p.name(t, n); e != api.OK {
				t.Errorf("P5.1: Name(%q) = %d", n, e)
			}
		}
		if all := p.w.All(); all != c.want {
			t.Errorf("P5.1: %q: %q, want %q", c.names, all, c.want)
		}
	}
}

func TestRawIsNotPointedTo(t *testing.T) {
	p := newPair()
	p.raw(t, "\x01a\x00")
	p.name(t, nameOf("a"))
	p.raw(t, "")
	p.raw(t, "\x01b\xc0\x03")
	p.name(t, nameOf("b", "a"))
	p.name(t, nameOf("b", "a"))
	if all, want := p.w.All(), "\x01a\x00\x01a\x00\x01b\xc0\x03\x01b\xc0\x03\xc0\x0a"; all != want {
		t.Errorf("P5.1: %q, want %q", all, want)
	}
}

func TestEveryThreeNames(t *testing.T) {
	names := []string{}
	for _, s := range shorts([]string{"\x01a", "\x01A", "\x02ab", "\x01\x00"}, 3) {
		names = append(names, s+"\x00")
	}
	for _, a := range names {
		for _, b := range names {
			p := newPair()
			p.name(t, a)
			p.name(t, b)
			for _, c := range names[:21] {
				q := newPair()
				q.w.Name(a)
				q.w.Name(b)
				q.m = model{p.m.out, slices.Clone(p.m.places)}
				q.name(t, c)
			}
		}
	}
}

func TestMaxMessageByRaw(t *testing.T) {
	for _, size := range []int{0, 1, 4095, 4096, 4097, 65536, 1 << 20} {
		p := newPair()
		want := api.OK
		if size > api.MaxMessage {
			want = api.ErrCompLong
		}
		if e := p.raw(t, filled(size)); e != want {
			t.Errorf("P5.1: Raw of %d bytes = %d", size, e)
		}
	}
	p := newPair()
	p.raw(t, filled(api.MaxMessage-3))
	if e := p.raw(t, "abcd"); e != api.ErrCompLong {
		t.Errorf("P5.1: one byte too many: %d", e)
	}
	for _, s := range []string{"ab", "", "c", ""} {
		if e := p.raw(t, s); e != api.OK {
			t.Errorf("P5.1: Raw(%q) = %d", s, e)
		}
	}
	if e := p.raw(t, "d"); e != api.ErrCompLong || len(p.w.All()) != api.MaxMessage {
		t.Errorf("P5.1: Raw behind the last byte = %d", e)
	}
}

func TestMaxMessageByName(t *testing.T) {
	known := nameOf("k", "n")
	for _, c := range []struct {
		n    string
		size int
	}{{nameOf(), 1}, {known, 2}, {nameOf("n"), 2}, {nameOf("a", "k", "n"), 4}, {nameOf("a"), 3}, {nameOf("k"), 3}, {nameOf("a", "b", "K", "n"), 8}, {labelsOf(254) + "\x00", 255}} {
		for left := range c.size + 2 {
			p := newPair()
			p.name(t, known)
			p.raw(t, filled(api.MaxMessage-len(known)-left))
			ahead := p.w.All()
			want := api.OK
			if left < c.size {
				want = api.ErrCompLong
			}
			e := p.name(t, c.n)
			if e != want || e != api.OK && p.w.All() != ahead || e == api.OK && len(p.w.All()) != len(ahead)+c.size {
				t.Errorf("P5.1: Name(%q) with room for %d = %d", tell(c.n), left, e)
			}
		}
	}
}

// A Name that was refused is no earlier Name: neither its whole nor its rests are pointed to.
func TestRefusedNamesAreForgotten(t *testing.T) {
	p := newPair()
	p.raw(t, filled(api.MaxMessage-8))
	if e := p.name(t, nameOf("aa", "bb", "c")); e != api.ErrCompLong {
		t.Errorf("P5.1: %d", e)
	}
	if e := p.name(t, "\x01c"); e != api.ErrCompForm {
		t.Errorf("P5.1: %d", e)
	}
	p.name(t, nameOf("c"))
	p.name(t, nameOf("d", "c"))
	if all := p.w.All(); all[api.MaxMessage-8:] != "\x01c\x00\x01d"+point(api.MaxMessage-8) {
		t.Errorf("P5.1: %q", all[api.MaxMessage-8:])
	}
}

func TestGreatPlaces(t *testing.T) {
	for _, place := range []int{0, 1, 62, 63, 64, 191, 192, 254, 255, 256, 257, 511, 512, 1023, 1024, 2048, 4090, 4091} {
		p := newPair()
		p.raw(t, filled(place))
		p.name(t, nameOf("a"))
		p.name(t, nameOf("a"))
		if all := p.w.All(); all[place:] != "\x01a\x00"+point(place) {
			t.Errorf("P5.1: at %d: %q", place, all[place:])
		}
		wantName(t, p.w.All(), place+3, nameOf("a"), place+5)
	}
}

// noNames gives strings that are no names.
func noNames() []string {
	return []string{
		"", "a", "x", "\x01", "\x01a", "\x02a\x00", "\x00\x00", "\x01a\x00\x00", "\x01a\x00b", "\xc0\x00", "\x01a\xc0\x00", "\xc0",
		"\x40" + strings.Repeat("a", 64) + "\x00", "\x80\x00", "\xff", labelsOf(255) + "\x00", strings.Repeat("\x01a", 128) + "\x00",
		strings.Repeat("\x01a", 127), strings.Repeat("\x00", 4096), strings.Repeat("\x01", 1<<20),
	}
}

func TestWrongNamesAreNotWritten(t *testing.T) {
	for _, room := range []int{0, 1, 2, api.MaxMessage} {
		for _, n := range noNames() {
			p := newPair()
			p.raw(t, filled(api.MaxMessage-room))
			if e := p.name(t, n); e != api.ErrCompForm || len(p.w.All()) != api.MaxMessage-room {
				t.Errorf("P5.1: Name(%q) with room for %d = %d", tell(n), room, e)
			}
		}
	}
}

func TestWritersThatNewDidNotMake(t *testing.T) {
	var none *comp.Writer
	for _, s := range append(noNames(), nameOf(), nameOf("a")) {
		if e := none.Raw(s); e != api.ErrNil {
			t.Errorf("R3: Raw(%q) = %d", tell(s), e)
		}
		if e := none.Name(s); e != api.ErrNil {
			t.Errorf("R3: Name(%q) = %d", tell(s), e)
		}
	}
	if all := none.All(); all != "" {
		t.Errorf("R3: %q", all)
	}
	p := &pair{w: new(comp.Writer)}
	p.name(t, nameOf("a", "b"))
	p.raw(t, "z")
	p.name(t, nameOf("b"))
}

func TestWritersAreTheirOwn(t *testing.T) {
	v, w := newPair(), newPair()
	v.name(t, nameOf("a", "b"))
	w.raw(t, "zz")
	w.name(t, nameOf("b"))
	v.name(t, nameOf("b"))
	w.name(t, nameOf("a", "b"))
	if v.w.All() != "\x01a\x01b\x00\xc0\x02" || w.w.All() != "zz\x01b\x00\x01a\xc0\x02" {
		t.Errorf("P5.1: %q, %q", v.w.All(), w.w.All())
	}
}

// view gives a string that changes with b.
func view(b []byte) string {
	return unsafe.String(unsafe.SliceData(b), len(b))
}

func TestWritersKeepNothingHandedIn(t *testing.T) {
	w := comp.New()
	raw, n := []byte("raw"), []byte(nameOf("a", "b"))
	w.Raw(view(raw))
	w.Name(view(n))
	all := w.All()
	copy(raw, "xyz")
	copy(n, nameOf("c", "d"))
	w.Name(nameOf("b"))
	w.Name(nameOf("c", "d"))
	if all != "raw\x01a\x01b\x00" {
		t.Errorf("R4: All gave %q", all)
	}
	if now := w.All(); now != "raw\x01a\x01b\x00\xc0\x05\x01c\x01d\x00" {
		t.Errorf("R4: %q", now)
	}
}

// randomName gives a name of few labels out of which many are alike.
func randomName(r *rand.Rand) string {
	labels := []string{"a", "b", "A", "ab", "\x00", "\x01a", "\xc0\x00", strings.Repeat("l", 63)}
	out := []string{}
	for range r.IntN(5) {
		out = append(out, labels[r.IntN(len(labels))])
	}
	if n := nameOf(out...); len(n) <= api.MaxName {
		return n
	}
	return nameOf()
}

func TestRandomWriting(t *testing.T) {
	r := rand.New(rand.NewPCG(5, 1))
	for range 300 {
		p := newPair()
		if r.IntN(2) == 0 {
			p.raw(t, filled(r.IntN(api.MaxMessage+2)))
		}
		for range 60 {
			switch r.IntN(8) {
			case 0:
				p.raw(t, []string{"", "z", nameOf("a"), filled(40), filled(api.MaxMessage)}[r.IntN(5)])
			case 1:
				p.name(t, noNames()[r.IntN(15)])
			default:
				p.name(t, randomName(r))
			}
		}
	}
}

func TestThereAndBack(t *testing.T) {
	r := rand.New(rand.NewPCG(5, 2))
	for range 300 {
		w := comp.New()
		w.Raw(filled(r.IntN(4000)))
		type written struct {
			n          string
			at, behind int
		}
		var all []written
		for range 40 {
			at, n := len(w.All()), randomName(r)
			if w.Name(n) == api.OK {
				all = append(all, written{n, at, len(w.All())})
			}
			w.Raw("z")
		}
		s := w.All()
		for _, x := range all {
			wantName(t, s, x.at, x.n, x.behind)
			size := x.behind - x.at
			wantData(t, s, x.at, size, api.TypeNs, x.n)
			wantNoData(t, s, x.at, size-1, api.TypeNs)
		}
	}
}

func TestOrdinaryNamesAreRead(t *testing.T) {
	wantName(t, "\x00", 0, "\x00", 1)
	wantName(t, "zz\x00zz", 2, "\x00", 3)
	wantName(t, "\x03www\x07Example\x00zz", 0, nameOf("www", "Example"), 13)
	wantName(t, "\x03www\x07Example\x00zz", 4, nameOf("Example"), 13)
	wantName(t, "\x01b\x00\x01a\xc0\x00z", 3, nameOf("a", "b"), 7)
	wantName(t, "\x01b\x00\xc0\x00z", 3, nameOf("b"), 5)
	wantName(t, "\x00\xc0\x00", 1, "\x00", 3)
	// The place behind is behind the first pointer, wherever the others lead.
	wantName(t, "\x01c\x00\x01b\xc0\x00\x01a\xc0\x03zz", 7, nameOf("a", "b", "c"), 11)
	wantName(t, "\x00\xc0\x00\xc0\x01\xc0\x03", 5, "\x00", 7)
}

func TestPlacesToReadAt(t *testing.T) {
	for _, s := range []string{"", "\x00", "\x01a\x00", "\x01a\x00\xc0\x00", "\x00\xc0\x00", "\x01a\x01b\x00\x00"} {
		for at := -3; at < len(s)+3; at++ {
			checkName(t, s, at)
		}
		for _, at := range ends(s) {
			checkName(t, s, at)
		}
		wantNoName(t, s, -1)
		wantNoName(t, s, len(s))
		wantNoName(t, s, len(s)+1)
		wantNoName(t, s, math.MaxInt)
		wantNoName(t, s, math.MinInt)
	}
}

func TestFirstBytes(t *testing.T) {
	for c := range 256 {
		// The name that the label, or the pointer, needs stands wherever one of it could lead.
		first := string([]byte{byte(c), 0})
		s := strings.Repeat("\x00", 20000) + first + strings.Repeat("\x00", 300)
		n := string([]byte{byte(c)}) + strings.Repeat("\x00", c) + "\x00"
		switch {
		case c == 0:
			wantName(t, s, 20000, "\x00", 20001)
		case c <= 63:
			wantName(t, s, 20000, n, 20002+c)
			wantNoName(t, s[:20001+c], 20000)
			wantName(t, s[:20002+c], 20000, n, 20002+c)
		case c <= 191:
			wantNoName(t, s, 20000)
		default:
			wantName(t, s, 20000, "\x00", 20002)
			wantNoName(t, s[:20001], 20000)
		}
		behind := "\x01a" + s[20000:]
		checkName(t, behind, 0)
		checkName(t, strings.Repeat("\x00", 20000)+behind, 20000)
	}
}

func TestCutNames(t *testing.T) {
	whole := "\x01b\x00\x03www\x07Example\xc0\x00"
	for size := range len(whole) {
		wantNoName(t, whole[:size], 3)
	}
	wantName(t, whole, 3, nameOf("www", "Example", "b"), len(whole))
	wantNoName(t, "\x00\x01a", 1)
	wantNoName(t, "\x3f"+strings.Repeat("a", 62), 0)
	wantNoName(t, "\x3f"+strings.Repeat("a", 63), 0)
	wantNoName(t, "\x00\xc0", 1)
	wantNoName(t, "\x00\x01a\xc0", 1)
	// The name that a pointer leads to is cut.
	wantNoName(t, "\x05aaa\xc0\x00", 4)
	wantNoName(t, "\x3faaa\xc0\x00", 4)
}

func TestPointersLeadAhead(t *testing.T) {
	zeros := strings.Repeat("\x00", 8)
	for to := range 20 {
		// The labels begin at 8: a pointer to 7 is the last that may be.
		s := zeros + "\x01a" + point(to) + zeros
		if to < 8 {
			wantName(t, s, 8, nameOf("a"), 12)
		} else {
			wantNoName(t, s, 8)
		}
		// Labels from 2 on run into a pointer behind them: it is held against where the first pointer led.
		s = "\x00\x00\x03aaa\x01b" + point(to) + point(2) + zeros
		if to < 2 {
			wantName(t, s, 10, nameOf("aaa", "b"), 12)
		} else {
			wantNoName(t, s, 10)
		}
	}
	// Ahead of the pointer itself, but not ahead of its labels.
	wantNoName(t, "\x00\x01a\x01b\xc0\x03", 1)
	wantName(t, "\x00\x01a\x01b\xc0\x00", 3, nameOf("b"), 7)
	// Read from its second label on, the same pointer may lead to the first one, and is there held against it.
	wantNoName(t, "\x01a\x01b\xc0\x00", 2)
	wantNoName(t, "\x01a\x01b\xc0\x00", 0)
}

func TestPointersThatLeadRound(t *testing.T) {
	wantNoName(t, "\xc0\x00", 0)
	wantNoName(t, "\xc0\x02\xc0\x00", 0)
	wantNoName(t, "\xc0\x02\xc0\x00", 2)
	wantNoName(t, "\x01a\xc0\x00", 0)
	wantNoName(t, "\x01a\xc0\x00", 2)
	wantNoName(t, "\x01a\xc0\x04\x01b\xc0\x00", 0)
	wantNoName(t, "\x01a\xc0\x04\x01b\xc0\x00", 4)
	all := ""
	for at := range 2048 {
		all += point((2*at + 4094) % 4096)
	}
	for at := range api.MaxMessage {
		checkName(t, all, at)
	}
}

func TestPointersInLongRows(t *testing.T) {
	s := "\x01a\x00\x00"
	for at := 2; at <= 8191; at++ {
		s += point(2*at - 2)
	}
	wantName(t, s, len(s)-2, "\x00", len(s))
	s = "\x01a\x00" + s[3:]
	s = s[:4] + point(0) + s[6:]
	wantName(t, s, len(s)-2, nameOf("a"), len(s))
	s = s[:4] + point(4) + s[6:]
	wantNoName(t, s, len(s)-2)
}

func TestReadingAboutMaxPointer(t *testing.T) {
	exact := strings.Repeat("\x40", api.MaxPointer) + nameOf("a")
	wantName(t, exact+"\xff\xff", len(exact), nameOf("a"), len(exact)+2)
	wantName(t, exact, api.MaxPointer, nameOf("a"), len(exact))
	wantNoName(t, exact+"\xff\xfe", len(exact))
	wantNoName(t, exact+"\xc0\x00", len(exact))
	// One place beyond is read there, but no pointer tells it.
	beyond := strings.Repeat("\x40", api.MaxPointer+1) + nameOf("a")
	wantName(t, beyond, api.MaxPointer+1, nameOf("a"), len(beyond))
	wantNoName(t, beyond+"\xff\xff", len(beyond))
	wantNoName(t, beyond+"\xc0\x00", len(beyond))
	// Names far behind what pointers tell are read all the same.
	far := strings.Repeat("\x00", 1<<20) + "\x01a\xff\xff" + nameOf("b")
	wantName(t, far, 1<<20, nameOf("a"), 1<<20+4)
	wantName(t, far, 1<<20+4, nameOf("b"), 1<<20+7)
}

func TestLengthOfNamesRead(t *testing.T) {
	for size := 3; size <= 300; size++ {
		n := labelsOf(size-1) + "\x00"
		if size <= api.MaxName {
			wantName(t, n, 0, n, size)
		} else {
			wantNoName(t, n, 0)
		}
	}
	// The same, parted by a pointer, and by two.
	for ahead := 2; ahead <= 254; ahead++ {
		for _, more := range []int{254, 255, 256} {
			rest := more - ahead - 1
			if rest < 2 {
				continue
			}
			tail, first := labelsOf(rest)+"\x00", labelsOf(ahead)
			for _, s := range []string{tail + first + point(0), tail + point(0) + first + point(len(tail))} {
				at := len(s) - len(first) - 2
				if more <= api.MaxName {
					wantName(t, s, at, first+tail, len(s))
				} else {
					wantNoName(t, s, at)
				}
			}
		}
	}
	wantName(t, "\x00"+labelsOf(254)+point(0), 1, labelsOf(254)+"\x00", 257)
	wantNoName(t, "\x00"+labelsOf(255)+point(0), 1)
	wantName(t, labelsOf(254)+"\x00"+point(0), 255, labelsOf(254)+"\x00", 257)
	wantNoName(t, labelsOf(255)+"\x00"+point(0), 256)
	wantName(t, strings.Repeat("\x01a", 127)+"\x00", 0, strings.Repeat("\x01a", 127)+"\x00", 255)
	wantNoName(t, strings.Repeat("\x01a", 128)+"\x00", 0)
	wantName(t, strings.Repeat("\x01a", 128)+"\x00", 2, strings.Repeat("\x01a", 127)+"\x00", 257)
}

func TestEveryShortMessage(t *testing.T) {
	pieces := []string{"\x00", "\x01", "\x02", "\x03", "\xc0\x00", "\xc0\x01", "\xc0\x02", "\xc0\x03", "\xc0", "\x40", "\xbf"}
	for _, s := range shorts(pieces, 5) {
		for at := -1; at <= len(s); at++ {
			checkName(t, s, at)
		}
	}
}

// types gives the types that the chapter names, others, and numbers that are no type.
func types() []int {
	return []int{1, 2, 5, 6, 12, 15, 16, 28, 3, 41, 99, 255, 65535, 0, -1, -2, 65536, 65538, 1<<32 + 2, math.MaxInt, math.MinInt}
}

func TestOrdinaryData(t *testing.T) {
	s := "\x01a\x00\x01b\xc0\x00"
	for _, kind := range []int{api.TypeNs, api.TypeCname, api.TypePtr} {
		wantData(t, s, 3, 4, kind, nameOf("b", "a"))
		wantData(t, s, 0, 3, kind, nameOf("a"))
		wantData(t, s, 2, 1, kind, "\x00")
		wantData(t, s, 5, 2, kind, nameOf("a"))
	}
	mx := "\x01a\x00\x00\x0a\x01b\xc0\x00"
	wantData(t, mx, 3, 6, api.TypeMx, "\x00\x0a"+nameOf("b", "a"))
	// What stands ahead of the name is no name, whatever it looks like.
	wantData(t, "\x01a\x00\xc0\x00\xc0\x00", 3, 4, api.TypeMx, "\xc0\x00"+nameOf("a"))
	tail := "\xc0\x00\xc0\x01\xff\x40\x00\x00\x01a\xc0\x00\x00\x00\x00\x00\x00\x00\x00\x00"
	soa := "\x01a\x00\x01b\xc0\x00\x01c\xc0\x03" + tail
	wantData(t, soa, 3, 28, api.TypeSoa, nameOf("b", "a")+nameOf("c", "b", "a")+tail)
	wantData(t, "\x00\x00"+tail, 0, 22, api.TypeSoa, "\x00\x00"+tail)
	// The second name may point into the first one.
	wantData(t, "\x01a\x01b\x00\xc0\x02"+tail, 0, 27, api.TypeSoa, nameOf("a", "b")+nameOf("b")+tail)
}

func TestDataOfOtherTypesStandsAsItIs(t *testing.T) {
	s := "\x01a\x00\xc0\x00\xc0\x03\x01b\xc0\x00\xff\x40abcdefgh"
	for _, kind := range []int{3, 4, 7, 11, 13, 14, 17, 41, 99, 255, 65535} {
		for at := range len(s) + 1 {
			for size := range len(s) - at + 1 {
				wantData(t, s, at, size, kind, s[at:at+size])
			}
			wantNoData(t, s, at, len(s)-at+1, kind)
		}
	}
	wantData(t, "zabcdz", 1, 4, api.TypeA, "abcd")
	wantData(t, "z\xc0\x00\xc0\x00z", 1, 4, api.TypeA, "\xc0\x00\xc0\x00")
	wantNoData(t, "zabcdz", 1, 3, api.TypeA)
	wantNoData(t, "zabcdz", 1, 5, api.TypeA)
	wantData(t, s, 3, 16, api.TypeAaaa, s[3:19])
	wantNoData(t, s, 3, 15, api.TypeAaaa)
	wantNoData(t, s, 3, 17, api.TypeAaaa)
	wantData(t, "\x00\x01a\xc0\x00", 1, 2, api.TypeTxt, "\x01a")
	wantNoData(t, "\x00\x01a\xc0\x00", 1, 4, api.TypeTxt)
	wantNoData(t, "\x00\x01a\xc0\x00", 1, 0, api.TypeTxt)
	for _, kind := range []int{0, -1, 65536, 65538, math.MaxInt, math.MinInt} {
		wantNoData(t, s, 0, 3, kind)
		wantNoData(t, s, 0, 0, kind)
	}
}

func TestNamesEndWhereSizeSays(t *testing.T) {
	tail := strings.Repeat("\x00", 20)
	for _, c := range []struct {
		kind  int
		bytes string
		want  string
	}{
		{api.TypeNs, "\x01b\x00", nameOf("b")},
		{api.TypeCname, "\x01b\xc0\x00", nameOf("b", "a")},
		{api.TypePtr, "\xc0\x00", nameOf("a")},
		{api.TypeMx, "pp\x00", "pp\x00"},
		{api.TypeMx, "pp\x01b\xc0\x00", "pp" + nameOf("b", "a")},
		{api.TypeSoa, "\x00\x00" + tail, "\x00\x00" + tail},
		{api.TypeSoa, "\xc0\x00\xc0\x00" + tail, nameOf("a") + nameOf("a") + tail},
		{api.TypeSoa, "\x01b\x00\x01c\xc0\x03" + tail, nameOf("b") + nameOf("c", "b") + tail},
	} {
		for _, behind := range []string{"", "\x00", "\x00\x00\x00", "\xff\xff", strings.Repeat("\x00", 30)} {
			s := "\x01a\x00" + c.bytes + behind
			for size := -2; size <= len(s); size++ {
				if size == len(c.bytes) {
					wantData(t, s, 3, size, c.kind, c.want)
				} else {
					wantNoData(t, s, 3, size, c.kind)
				}
			}
		}
	}
}

// Names are read by Name in all of s: what a pointer leads to may run on past the data's own end.
func TestNamesOfDataMayRunPastItBehindAPointer(t *testing.T) {
	s := "\x04\x00\x00\xc0\x00\x01z\x00"
	wantName(t, s, 3, "\x04\x00\x00\xc0\x00\x01z\x00", 5)
	wantData(t, s, 3, 2, api.TypeNs, "\x04\x00\x00\xc0\x00\x01z\x00")
	wantNoData(t, s[:5], 3, 2, api.TypeNs)
}

func TestPlacesAndSizesOfData(t *testing.T) {
	tail := strings.Repeat("t", 20)
	for _, s := range []string{"", "\x00", "\x01a\x00\xc0\x00", "pp\x00", "\x00\x00" + tail, "abcd", "\x01a\x00\xc0\x00\xc0\x00" + tail} {
		for _, kind := range types() {
			for at := -2; at <= len(s)+2; at++ {
				for size := -2; size <= len(s)+2; size++ {
					checkData(t, s, at, size, kind)
				}
				for _, size := range ends(s) {
					checkData(t, s, at, size, kind)
					checkData(t, s, size, at, kind)
				}
			}
			for _, at := range ends(s) {
				for _, size := range ends(s) {
					checkData(t, s, at, size, kind)
				}
			}
			wantNoData(t, s, math.MaxInt, math.MaxInt, kind)
			wantNoData(t, s, math.MinInt, math.MinInt, kind)
			wantNoData(t, s, 1, math.MaxInt, kind)
			wantNoData(t, s, math.MaxInt, 1, kind)
			wantNoData(t, s, len(s)+1, 0, kind)
			wantNoData(t, s, len(s)+1, -1, kind)
		}
		wantData(t, s, len(s), 0, 99, "")
		wantNoData(t, s, len(s), 0, api.TypeNs)
	}
}

func TestEveryShortData(t *testing.T) {
	pieces := []string{"\x00", "\x01", "\x02", "\xc0\x00", "\xc0\x02", "\x40"}
	for _, s := range shorts(pieces, 4) {
		for _, kind := range []int{1, 2, 5, 12, 15, 16, 99} {
			for at := range len(s) + 1 {
				for size := range len(s) - at + 2 {
					checkData(t, s, at, size, kind)
				}
			}
		}
		soa := s + strings.Repeat("\x00", 20)
		for at := range len(s) + 1 {
			for size := 20; size <= len(soa)-at; size++ {
				checkData(t, soa, at, size, api.TypeSoa)
			}
		}
	}
}

func TestLongNamesInData(t *testing.T) {
	long, tail := labelsOf(254)+"\x00", strings.Repeat("t", 20)
	s := long + point(0) + point(0) + tail
	wantData(t, s, 255, 2, api.TypeNs, long)
	wantData(t, s, 253, 4, api.TypeMx, s[253:255]+long)
	wantData(t, s, 255, 24, api.TypeSoa, long+long+tail)
	over := long + "\x01a" + point(0) + tail
	wantNoData(t, over, 255, 4, api.TypeNs)
	wantNoData(t, over, 253, 6, api.TypeMx)
	wantNoData(t, "\x00"+over, 0, 256+4+20, api.TypeSoa)
}

// Great messages are read, or refused, in a time that their size explains.
func TestGreatMessages(t *testing.T) {
	for _, fill := range []string{"\x00", "\x01", "\x3f", "\x40", "\xc0", "\xff", "\xff\xfd"} {
		s := strings.Repeat(fill, 1<<23)
		for _, kind := range types() {
			checkData(t, s, 0, len(s), kind)
			checkData(t, s, 0, 65535, kind)
			checkData(t, s, 1, 65536, kind)
			checkData(t, s, len(s)-2, 2, kind)
		}
		for _, at := range ends(s) {
			checkName(t, s, at)
		}
	}
}

// shares says whether two strings have a byte of memory in common.
func shares(a, b string) bool {
	if a == "" || b == "" {
		return false
	}
	x, y := uintptr(unsafe.Pointer(unsafe.StringData(a))), uintptr(unsafe.Pointer(unsafe.StringData(b)))
	return x < y+uintptr(len(b)) && y < x+uintptr(len(a))
}

func TestNewMemory(t *testing.T) {
	s := strings.Clone("\x01a\x00\x01b\xc0\x00pp\x01c\x00" + strings.Repeat("t", 20))
	n, _, _ := comp.Name(s, 3)
	again, _, _ := comp.Name(s, 3)
	got := []string{s, n, again}
	for _, c := range [][3]int{{0, 3, 2}, {3, 4, 5}, {7, 5, 15}, {9, 4, 1}, {9, 16, 28}, {9, 16, 99}, {0, 2, 16}} {
		for range 2 {
			d, e := comp.Data(s, c[0], c[1], c[2])
			if e != api.OK {
				t.Errorf("P5.3: Data(%v) = %d", c, e)
			}
			got = append(got, d)
		}
	}
	w := comp.New()
	w.Raw(s)
	got = append(got, w.All(), w.All())
	for i, a := range got {
		for _, b := range got[:i] {
			if shares(a, b) {
				t.Errorf("R4: %q and %q share memory", a, b)
			}
		}
	}
}

func TestSeveralGoroutines(t *testing.T) {
	s := "\x01a\x00\x01b\xc0\x00"
	var all sync.WaitGroup
	for range 8 {
		all.Go(func() {
			for range 500 {
				w := comp.New()
				w.Name(nameOf("a"))
				w.Name(nameOf("b", "a"))
				n, behind, e := comp.Name(s, 3)
				d, f := comp.Data(s, 3, 4, api.TypeNs)
				if w.All() != s || n != nameOf("b", "a") || behind != 7 || d != n || e != api.OK || f != api.OK {
					t.Errorf("R5: %q, %q, %d, %q, %d, %d", w.All(), n, behind, d, e, f)
					return
				}
			}
		})
	}
	all.Wait()
}

func FuzzNames(f *testing.F) {
	f.Add("\x01a\x00\x01b\xc0\x00", 3, 4)
	f.Add("\xc0\x00", 0, 2)
	f.Add("\x00\x00"+strings.Repeat("t", 20), 0, 22)
	f.Add("\x3f\x40\xbf\xff", math.MaxInt, math.MinInt)
	f.Fuzz(func(t *testing.T, s string, at, size int) {
		for place := -1; place <= min(len(s), 64); place++ {
			checkName(t, s, place)
		}
		checkName(t, s, at)
		for _, kind := range types() {
			checkData(t, s, at, size, kind)
		}
		p := newPair()
		for _, part := range strings.SplitAfter(s, "\x00") {
			if p.name(t, part) != api.OK {
				p.raw(t, part)
			}
		}
	})
}
