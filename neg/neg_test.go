package neg_test

import (
	"bytes"
	"fmt"
	"math"
	"math/rand"
	"slices"
	"strings"
	"sync"
	"testing"
	"time"
	"unsafe"

	"wimple/api"
	"wimple/neg"
)

const (
	root = "\x00"

	// last is the last tick at which something may be put.
	last = 1 << 40
)

// nameOf gives the name of the labels.
func nameOf(labels ...string) string {
	out := ""
	for _, l := range labels {
		out += string([]byte{byte(len(l))}) + l
	}
	return out + root
}

func entry(n string, kind int, until int) api.Neg {
	return api.Neg{Name: n, Type: kind, Until: until}
}

// tell shortens what is told.
func tell(x any) string {
	s := fmt.Sprintf("%+q", fmt.Sprintf("%+v", x))
	if len(s) > 800 {
		return s[:800] + ".."
	}
	return s
}

// mayName is chapter 1's head.
func mayName(n string) bool {
	size := len(n)
	for n != "" && n[0] >= 1 && n[0] <= 63 && len(n) > int(n[0]) {
		n = n[1+n[0]:]
	}
	return n == root && size <= 255
}

// folded is chapter 2's head: no length of a label is as great as a letter.
func folded(n string) string {
	out := []byte(n)
	for i, c := range out {
		if c >= 65 && c <= 90 {
			out[i] = c + 32
		}
	}
	return string(out)
}

// great gives a name with its small letters made great.
func great(n string) string {
	out := []byte(n)
	for i, c := range out {
		if c >= 97 && c <= 122 {
			out[i] = c - 32
		}
	}
	return string(out)
}

// backwards gives the labels of a name, folded, the last one ahead.
func backwards(n string) []string {
	var out []string
	for n = folded(n); n != root; n = n[1+n[0]:] {
		out = append([]string{n[1 : 1+n[0]]}, out...)
	}
	return out
}

// ahead says whether a stands ahead of b in the row of All: P2.3, then Type.
func ahead(a, b api.Neg) bool {
	c := slices.CompareFunc(backwards(a.Name), backwards(b.Name), func(x, y string) int { return bytes.Compare([]byte(x), []byte(y)) })
	return c < 0 || c == 0 && a.Type < b.Type
}

// mayPut is what P14.1 asks of an entry.
func mayPut(x api.Neg, now int) bool {
	return mayName(x.Name) && x.Type >= 0 && x.Type <= 65535 && x.Until > now && now >= 0 && now <= 1099511627776
}

// model is a second reading of the chapter: a list, in the row of All.
type model struct {
	most int
	held []api.Neg
}

func (m *model) put(x api.Neg, now int) api.Errno {
	if !mayPut(x, now) {
		return api.ErrNegForm
	}
	x.Name = folded(x.Name)
	var left []api.Neg
	for _, y := range m.held {
		if now < y.Until && (y.Name != x.Name || y.Type != x.Type) {
			left = append(left, y)
		}
	}
	if len(left) == m.most {
		gone := 0
		for i := range left {
			// The list stands in the row of All, so that of several the first is met first.
			if left[i].Until < left[gone].Until {
				gone = i
			}
		}
		left = slices.Delete(left, gone, gone+1)
	}
	at := 0
	for at < len(left) && ahead(left[at], x) {
		at++
	}
	m.held = slices.Insert(left, at, x)
	return api.OK
}

// has says whether there is a live one of that name and number.
func (m *model) has(n string, kind int, now int) bool {
	return mayName(n) && slices.ContainsFunc(m.held, func(x api.Neg) bool {
		return x.Name == folded(n) && x.Type == kind && now < x.Until
	})
}

func (m *model) nx(n string, now int) bool {
	return m.has(n, 0, now)
}

func (m *model) nodata(n string, kind int, now int) bool {
	return kind >= 1 && kind <= 65535 && m.has(n, kind, now)
}

// pair is a Negs and its model; each call is made of both, and what they answer held against each other.
type pair struct {
	g *neg.Negs
	m model
}

func newPair(t *testing.T, most int) *pair {
	t.Helper()
	g, e := neg.New(most)
	if g == nil || e != api.OK {
		t.Fatalf("P14.1: New(%d) = %v, %d", most, g, e)
	}
	return &pair{g: g, m: model{most: most}}
}

// filled gives a pair that was put the entries at tick now.
func filled(t *testing.T, most int, now int, entries ...api.Neg) *pair {
	t.Helper()
	p := newPair(t, most)
	for _, x := range entries {
		if e := p.put(t, x, now); e != api.OK {
			t.Fatalf("P14.1: Put(%s, %d) = %d", tell(x), now, e)
		}
	}
	return p
}

func (p *pair) put(t *testing.T, x api.Neg, now int) api.Errno {
	t.Helper()
	got, want := p.g.Put(x, now), p.m.put(x, now)
	if got != want {
		t.Fatalf("P14.1: Put(%s, %d) = %d, want %d", tell(x), now, got, want)
	}
	p.all(t)
	return got
}

func (p *pair) nx(t *testing.T, n string, now int) bool {
	t.Helper()
	got, want := p.g.Nx(n, now), p.m.nx(n, now)
	if got != want {
		t.Fatalf("P14.2: Nx(%s, %d) = %v of %s", tell(n), now, got, tell(p.m.held))
	}
	return got
}

func (p *pair) nodata(t *testing.T, n string, kind int, now int) bool {
	t.Helper()
	got, want := p.g.Nodata(n, kind, now), p.m.nodata(n, kind, now)
	if got != want {
		t.Fatalf("P14.2: Nodata(%s, %d, %d) = %v of %s", tell(n), kind, now, got, tell(p.m.held))
	}
	return got
}

func (p *pair) all(t *testing.T) []api.Neg {
	t.Helper()
	got := p.g.All()
	if !slices.Equal(got, p.m.held) {
		t.Fatalf("P14.2: All() = %s, want %s", tell(got), tell(p.m.held))
	}
	return got
}

// holds holds All against entries that are written out.
func (p *pair) holds(t *testing.T, what string, want ...api.Neg) {
	t.Helper()
	if got := p.all(t); !slices.Equal(got, want) {
		t.Errorf("%s: %s, want %s", what, tell(got), tell(want))
	}
}

// isNx holds Nx against what is written out; isNodata does it of Nodata.
func (p *pair) isNx(t *testing.T, what string, n string, now int, want bool) {
	t.Helper()
	if got := p.nx(t, n, now); got != want {
		t.Errorf("P14.2: %s: Nx(%s, %d) = %v", what, tell(n), now, got)
	}
}

func (p *pair) isNodata(t *testing.T, what string, n string, kind int, now int, want bool) {
	t.Helper()
	if got := p.nodata(t, n, kind, now); got != want {
		t.Errorf("P14.2: %s: Nodata(%s, %d, %d) = %v", what, tell(n), kind, now, got)
	}
}

// isThere asks for an entry by the call that is its type's.
func (p *pair) isThere(t *testing.T, what string, x api.Neg, now int, want bool) {
	t.Helper()
	if x.Type == 0 {
		p.isNx(t, what, x.Name, now, want)
		return
	}
	p.isNodata(t, what, x.Name, x.Type, now, want)
}

// noNames gives bytes of all kinds that are no name.
func noNames() []string {
	long := strings.Repeat("a", 63)
	return []string{
		"", "a", "com", ".", "\x01", "\x01a", "\x02a\x00", "\x3f\x00", "\x00\x00", "\x00\x01a\x00", "\x01a\x00\x00", "\x01a\x00b", "\xc0\x0c", "\x01a\xc0\x00",
		"\x40" + long + "a\x00", nameOf(long, long, long, long[:62]), strings.Repeat("\x01a", 128) + root, strings.Repeat("\x00", 1<<16),
	}
}

// oddNames gives names at the edges of what one is, folded.
func oddNames() []string {
	long := strings.Repeat("a", 63)
	return []string{root, nameOf("a"), nameOf(long), nameOf(long, long, long, long[:61]), strings.Repeat("\x01a", 127) + root, nameOf("\x00"), nameOf("\xff\xc0.\\")}
}

// rising gives names in the canonical order, which is neither that of their bytes nor that of their lengths.
func rising() []string {
	return []string{
		root, nameOf("\x00"), nameOf("-"), nameOf("0"), nameOf("["), nameOf("`"), nameOf("a"), nameOf("zzz", "a"), nameOf("a", "zzz", "a"), nameOf("\x00", "a\x00"), nameOf("a", "aa"), nameOf("aaa"), nameOf("b"),
		nameOf("a", "b"), nameOf("aa", "b"), nameOf("b", "b"), nameOf("c"), nameOf("example"), nameOf("a", "example"), nameOf("yljkjljk", "a", "example"), nameOf("z", "a", "example"), nameOf("z", "example"),
		nameOf("{"), nameOf("\x7f"), nameOf("\x80"), nameOf("\xff"),
	}
}

func TestNumbersOfTheDocument(t *testing.T) {
	if api.MaxCache != 256 || api.ErrNegForm != 1400 || api.ErrNil != 1 || api.OK != 0 {
		t.Error("package api is not as it was given")
	}
}

func TestNewAtItsEdges(t *testing.T) {
	for _, most := range []int{0, -1, -2, -255, -256, 257, 258, 512, 65537, 1<<32 + 1, -1<<32 + 1, math.MinInt, math.MinInt + 1, math.MaxInt} {
		if g, e := neg.New(most); g != nil || e != api.ErrNegForm {
			t.Errorf("P14.1: New(%d) = %v, %d", most, g, e)
		}
	}
	for most := 1; most <= 256; most++ {
		if all := newPair(t, most).all(t); len(all) != 0 {
			t.Errorf("P14.1: a new one holds %s", tell(all))
		}
	}
}

// Each size is kept: so many are held, and never one more.
func TestTheyStayWithinTheirSizes(t *testing.T) {
	for _, most := range []int{1, 2, 3, 7, 8, 9, 127, 128, 129, 254, 255, 256} {
		p := newPair(t, most)
		for i := range most + 20 {
			x := entry(nameOf(fmt.Sprint(i)), i%3, 1000+i*7919%5000)
			if e := p.put(t, x, 9); e != api.OK {
				t.Fatalf("P14.1: %d", e)
			}
			if all := p.all(t); len(all) != min(i+1, most) {
				t.Fatalf("P14.1: behind %d of them one of %d holds %d", i+1, most, len(all))
			}
			p.isThere(t, "what came last", x, 10, true)
		}
	}
}

func TestOrdinaryEntries(t *testing.T) {
	www, mail, zone := nameOf("www", "example"), nameOf("mail", "example"), nameOf("example")
	p := newPair(t, 256)
	p.holds(t, "a new one")
	p.isNx(t, "a new one", www, 0, false)
	p.isNodata(t, "a new one", www, 1, 0, false)
	none, noAddress, noMail := entry(www, 0, 160), entry(mail, 28, 130), entry(mail, 15, 200)
	for _, x := range []api.Neg{none, noAddress, noMail} {
		if e := p.put(t, x, 100); e != api.OK {
			t.Fatalf("P14.1: Put(%s) = %d", tell(x), e)
		}
	}
	p.holds(t, "three", noMail, noAddress, none)
	p.isNx(t, "a name", www, 100, true)
	p.isNx(t, "a name, later", www, 159, true)
	p.isNx(t, "a name, too late", www, 160, false)
	p.isNodata(t, "a type", mail, 28, 129, true)
	p.isNodata(t, "a type, too late", mail, 28, 130, false)
	p.isNodata(t, "the other type", mail, 15, 130, true)
	p.isNodata(t, "a type that was not put", mail, 1, 100, false)
	p.isNx(t, "a name that is there", mail, 100, false)
	p.isNx(t, "a name below", nameOf("a", "www", "example"), 100, false)
	p.isNx(t, "a name above", zone, 100, false)
	p.isNodata(t, "a name that is not there", www, 28, 100, false)
}

// Nx and Nodata of one name are two entries, in whichever row they come, and neither tells of the other.
func TestNxBesideNodata(t *testing.T) {
	n := nameOf("a")
	whole := entry(n, 0, 60)
	for _, kind := range []int{1, 2, 28, 255, 256, 65535} {
		part := entry(n, kind, 70)
		for _, row := range [][]api.Neg{{whole, part}, {part, whole}} {
			p := filled(t, 2, 10, row...)
			p.holds(t, "P14.1: two types, one of them 0", whole, part)
			for _, now := range []int{10, 59, 60, 69, 70} {
				p.isNx(t, "beside Nodata", n, now, now < 60)
				p.isNodata(t, "beside Nx", n, kind, now, now < 70)
			}
		}
		p := filled(t, 2, 10, whole)
		p.isNodata(t, "Nx alone", n, kind, 10, false)
		p.isNodata(t, "Nx alone", n, 0, 10, false)
		p = filled(t, 2, 10, part)
		p.isNx(t, "Nodata alone", n, 10, false)
		p.isNodata(t, "Nodata alone", n, 0, 10, false)
	}
}

// faults gives what makes a right entry at tick 50 a wrong one.
func faults() map[string]func(x *api.Neg, now *int) {
	return map[string]func(x *api.Neg, now *int){
		"no name":           func(x *api.Neg, now *int) { x.Name = "" },
		"a name cut":        func(x *api.Neg, now *int) { x.Name = "\x02a\x00" },
		"type -1":           func(x *api.Neg, now *int) { x.Type = -1 },
		"type 65536":        func(x *api.Neg, now *int) { x.Type = 65536 },
		"until now":         func(x *api.Neg, now *int) { x.Until = *now },
		"until before":      func(x *api.Neg, now *int) { x.Until = *now - 1 },
		"now before all":    func(x *api.Neg, now *int) { *now = -1 },
		"now behind all":    func(x *api.Neg, now *int) { *now, x.Until = last+1, last+9 },
		"now behind it all": func(x *api.Neg, now *int) { *now = last + 1 },
	}
}

// worn gives a full one of 4 with live entries and two that are not live at tick 50.
func worn(t *testing.T) *pair {
	t.Helper()
	return filled(t, 4, 10, entry(nameOf("a"), 1, 60), entry(nameOf("a"), 2, 50), entry(nameOf("b"), 0, 49), entry(root, 0, 90))
}

// unmoved holds that a Put is refused, and that All, Nx and Nodata answer as they did.
func unmoved(t *testing.T, what string, p *pair, x api.Neg, now int) {
	t.Helper()
	was := p.g.All()
	if e := p.put(t, x, now); e != api.ErrNegForm {
		t.Errorf("P14.1: %s: %d", what, e)
	}
	p.holds(t, what, was...)
	for _, y := range was {
		p.isThere(t, what, y, y.Until-1, true)
		p.isThere(t, what, y, y.Until, false)
		p.nx(t, y.Name, now)
		p.nodata(t, y.Name, y.Type, now)
	}
	p.nx(t, x.Name, now)
	p.nodata(t, x.Name, x.Type, now)
}

// Each fault alone and each two and three of them together; a Put that is refused changes nothing, be it of a key that is held or not.
func TestWrongEntries(t *testing.T) {
	if e := worn(t).put(t, entry(nameOf("a"), 1, 70), 50); e != api.OK {
		t.Fatalf("P14.1: without a fault: %d", e)
	}
	for one, spoil := range faults() {
		for two, more := range faults() {
			for three, most := range faults() {
				for _, n := range []string{nameOf("a"), nameOf("A"), nameOf("c")} {
					x, now := entry(n, 1, 70), 50
					spoil(&x, &now)
					more(&x, &now)
					most(&x, &now)
					if !mayPut(x, now) {
						unmoved(t, one+", "+two+", "+three, worn(t), x, now)
					}
				}
			}
		}
	}
	unmoved(t, "all at once", worn(t), entry("", -1, -2), -1)
	unmoved(t, "nothing at all", worn(t), api.Neg{}, 0)
	unmoved(t, "nothing at all", worn(t), api.Neg{Until: math.MinInt}, math.MaxInt)
}

func TestNames(t *testing.T) {
	for _, n := range noNames() {
		for kind := range 2 {
			unmoved(t, "no name", worn(t), entry(n, kind, 70), 50)
			unmoved(t, "no name", newPair(t, 1), entry(n, kind, 70), 50)
		}
	}
	p := newPair(t, 256)
	for i, n := range oddNames() {
		for kind := range 2 {
			x := entry(n, kind, 70+i)
			if e := p.put(t, x, 50); e != api.OK {
				t.Errorf("P14.1: the name %q: %d", n, e)
			}
			p.isThere(t, "an odd name", x, 69+i, true)
			p.isThere(t, "an odd name", x, 70+i, false)
			x.Name = great(n)
			p.isThere(t, "in great letters", x, 69+i, true)
			p.isThere(t, "in great letters", x, 70+i, false)
		}
	}
}

func TestTypesAtTheirEdges(t *testing.T) {
	for _, kind := range []int{-1, -2, 65536, 65537, 1 << 32, 1<<32 + 1, -65536, -65535, -1 << 32, -1<<32 + 1, math.MinInt, math.MinInt + 1, math.MaxInt} {
		unmoved(t, fmt.Sprintf("the type %d", kind), worn(t), entry(nameOf("a"), kind, 70), 50)
	}
	for _, kind := range []int{0, 1, 2, 41, 254, 255, 256, 32767, 32768, 65534, 65535} {
		p := worn(t)
		if e := p.put(t, entry(nameOf("a"), kind, 70), 50); e != api.OK {
			t.Errorf("P14.1: the type %d: %d", kind, e)
		}
		p.isThere(t, "its type", entry(nameOf("a"), kind, 70), 69, true)
	}
}

// Every type is a key of its own.
func TestEveryType(t *testing.T) {
	for kind := range 65535 {
		p := newPair(t, 2)
		one, two := entry(nameOf("a"), kind, 70), entry(nameOf("a"), kind+1, 60)
		if e, f := p.g.Put(two, 50), p.g.Put(one, 50); e != api.OK || f != api.OK {
			t.Fatalf("P14.1: the type %d and the next: %d, %d", kind, f, e)
		}
		if all := p.g.All(); !slices.Equal(all, []api.Neg{one, two}) {
			t.Fatalf("P14.2: the type %d and the next: %s", kind, tell(all))
		}
		if nx, nodata := p.g.Nx(one.Name, 60), p.g.Nodata(one.Name, kind, 60); nx != (kind == 0) || nodata != (kind > 0) {
			t.Fatalf("P14.2: the type %d: %v, %v", kind, nx, nodata)
		}
		if p.g.Nodata(one.Name, kind+1, 60) || !p.g.Nodata(one.Name, kind+1, 59) || p.g.Nodata(one.Name, kind+2, 50) || p.g.Nodata(one.Name, kind-1, 50) {
			t.Fatalf("P14.2: beside the type %d", kind)
		}
	}
}

func TestTicksAtTheirEdges(t *testing.T) {
	n := nameOf("q")
	for _, now := range []int{-1, -2, -1 << 40, 1<<40 + 1, 1<<40 + 2, 1 << 41, 1 << 62, math.MinInt, math.MinInt + 5, math.MaxInt - 1, math.MaxInt} {
		for _, until := range []int{now - 1, now, now + 1, 0, 1, 50, last, last + 1, last + 2, math.MaxInt} {
			unmoved(t, fmt.Sprintf("now %d, until %d", now, until), worn(t), entry(n, 0, until), now)
		}
	}
	for _, now := range []int{0, 1, 2, 1<<31 - 1, 1 << 31, 1<<32 - 1, 1 << 32, 1<<40 - 1, 1 << 40} {
		for _, until := range []int{now, now - 1, now - 2, 0, -1, -last, math.MinInt, math.MinInt + 1} {
			unmoved(t, fmt.Sprintf("now %d, until %d", now, until), worn(t), entry(n, 1, until), now)
		}
		for _, until := range []int{now + 1, now + 2, now + 3600, now + 3601, now + 1<<32, last + 1, math.MaxInt - 1, math.MaxInt} {
			for kind := range 2 {
				p, x := worn(t), entry(n, kind, until)
				if e := p.put(t, x, now); e != api.OK {
					t.Errorf("P14.1: now %d, until %d: %d", now, until, e)
				}
				p.isThere(t, "at once", x, now, true)
				p.isThere(t, "at its last tick", x, until-1, true)
				p.isThere(t, "behind its last tick", x, until, false)
			}
		}
	}
}

// The newer one takes the place of the older one, be that live or not, and whichever of them lasts longer.
func TestOneOfTheSameKey(t *testing.T) {
	beside := entry(nameOf("b"), 1, 1000)
	for kind := range 2 {
		for _, until := range []int{500, 51, 50, 49, 11} {
			for _, fresh := range []int{51, 52, 100, 500, 900} {
				for _, most := range []int{2, 3, 256} {
					old, x := entry(nameOf("a"), kind, until), entry(nameOf("a"), kind, fresh)
					p := filled(t, most, 10, beside, old)
					if e := p.put(t, x, 50); e != api.OK {
						t.Fatalf("P14.1: %d", e)
					}
					p.holds(t, "P14.1: the newer one", x, beside)
					p.isThere(t, "the newer one", x, fresh-1, true)
					p.isThere(t, "the newer one", x, fresh, false)
				}
			}
		}
	}
}

// Any Put that is carried out takes away all that is not live, where there is room too.
func TestWhatIsNotLiveGoes(t *testing.T) {
	for _, most := range []int{5, 6, 256} {
		long, short, ended := entry(nameOf("a"), 1, 60), entry(nameOf("b"), 0, 51), entry(nameOf("c"), 1, 50)
		worse, older := entry(nameOf("d"), 0, 49), entry(nameOf("d"), 2, 11)
		p := filled(t, most, 10, ended, worse, long, older, short)
		p.holds(t, "P14.2: what is not live among them", long, short, ended, worse, older)
		x := entry(nameOf("bb"), 9, 52)
		p.put(t, x, 50)
		p.holds(t, "P14.1: what is not live is gone", long, short, x)
		p.isNodata(t, "what is gone, at an earlier tick", nameOf("c"), 1, 10, false)
		p.isNx(t, "what is gone, at an earlier tick", nameOf("d"), 10, false)
		p.put(t, x, 51)
		p.holds(t, "P14.1: and a tick later", long, x)
	}
	// All at once, the key's own one too.
	p := filled(t, 3, 10, entry(nameOf("a"), 1, 20), entry(nameOf("b"), 1, 21), entry(nameOf("c"), 1, 22))
	p.put(t, entry(nameOf("b"), 1, 90), 80)
	p.holds(t, "P14.1: all of them", entry(nameOf("b"), 1, 90))
	// A Put at an earlier tick finds live what a later one would not.
	p.put(t, entry(nameOf("c"), 1, 85), 5)
	p.put(t, entry(nameOf("d"), 1, 7), 6)
	p.holds(t, "P14.1: an earlier tick", entry(nameOf("b"), 1, 90), entry(nameOf("c"), 1, 85), entry(nameOf("d"), 1, 7))
}

func TestNamesInBothCases(t *testing.T) {
	small, great, mixed := nameOf("www", "example"), nameOf("WWW", "EXAMPLE"), nameOf("wWw", "eXample")
	for _, n := range []string{small, great, mixed} {
		p := filled(t, 4, 10, entry(n, 0, 60), entry(n, 1, 50))
		p.holds(t, "P14.1: its name folded", entry(small, 0, 60), entry(small, 1, 50))
		for _, m := range []string{small, great, mixed} {
			p.isNx(t, "one name", m, 59, true)
			p.isNx(t, "one name", m, 60, false)
			p.isNodata(t, "one name", m, 1, 49, true)
			p.isNodata(t, "one name", m, 1, 50, false)
			q := filled(t, 4, 10, entry(n, 0, 60), entry(m, 0, 40))
			q.holds(t, "P14.1: one key", entry(small, 0, 40))
			q = filled(t, 4, 10, entry(n, 2, 60), entry(m, 2, 70))
			q.holds(t, "P14.1: one key", entry(small, 2, 70))
			q = filled(t, 4, 10, entry(n, 1, 60), entry(m, 0, 50), entry(n, 2, 55))
			q.holds(t, "P14.1: three types", entry(small, 0, 50), entry(small, 1, 60), entry(small, 2, 55))
		}
	}
}

// Each pair of bytes in a label is one key or two, by folding alone.
func TestEachPairOfBytes(t *testing.T) {
	for a := range 256 {
		for b := range 256 {
			x, y := nameOf("q"+string([]byte{byte(a)}), "z"), nameOf("q"+string([]byte{byte(b)}), "Z")
			g, _ := neg.New(2)
			m := model{most: 2}
			for i, n := range []string{x, y} {
				e := entry(n, 0, 60+i)
				if got, want := g.Put(e, 50), m.put(e, 50); got != want {
					t.Fatalf("P14.1: the bytes %d and %d: %d", a, b, got)
				}
			}
			if got := g.All(); !slices.Equal(got, m.held) || len(got) == 1 != (folded(x) == folded(y)) {
				t.Fatalf("P14.1: the bytes %d and %d: %s", a, b, tell(got))
			}
			if g.Nx(x, 60) != (folded(x) == folded(y)) || !g.Nx(y, 60) {
				t.Fatalf("P14.2: the bytes %d and %d", a, b)
			}
		}
	}
}

// Where it is full something goes just where neither what is not live nor the one of the key makes room.
func TestFullOnes(t *testing.T) {
	a, b, c := entry(nameOf("a"), 1, 80), entry(nameOf("b"), 0, 60), entry(nameOf("c"), 1, 70)
	d := entry(nameOf("d"), 1, 65)
	p := filled(t, 3, 10, a, b, c, d)
	p.holds(t, "P14.1: neither", a, c, d)
	p.isNx(t, "what is gone", b.Name, 10, false)
	p = filled(t, 3, 10, a, b, c)
	p.put(t, d, 60)
	p.holds(t, "P14.1: one that is not live", a, c, d)
	p = filled(t, 3, 10, a, entry(nameOf("b"), 0, 30), c)
	p.put(t, d, 29)
	p.holds(t, "P14.1: one that is live for a last tick", a, c, d)
	// The least Until is of one that is live: the other one's place is enough.
	p = filled(t, 3, 10, a, entry(nameOf("b"), 0, 51), entry(nameOf("c"), 1, 50))
	p.put(t, d, 50)
	p.holds(t, "P14.1: its place is enough", a, entry(nameOf("b"), 0, 51), d)
	for _, own := range []api.Neg{a, b, c} {
		for _, until := range []int{11, 60, 61, 75, 90} {
			again := own
			again.Until = until
			p = filled(t, 3, 10, a, b, c, again)
			if all := p.all(t); len(all) != 3 || !slices.Contains(all, again) {
				t.Errorf("P14.1: one of the key among them: %s", tell(all))
			}
		}
	}
	// Another type, 0 too, is no one of the key.
	p = filled(t, 3, 10, a, b, c, entry(nameOf("a"), 0, 90))
	p.holds(t, "P14.1: another type", entry(nameOf("a"), 0, 90), a, c)
	// What comes may be the one of the least Until: it is held all the same.
	p = filled(t, 3, 10, a, b, c, entry(nameOf("e"), 1, 11))
	p.holds(t, "P14.1: what comes", a, c, entry(nameOf("e"), 1, 11))
	p = filled(t, 1, 10, a, b, c)
	p.holds(t, "P14.1: room for one", c)
}

// The one of the key is not live: its place is room too, and no second one goes.
func TestOwnOneThatIsNotLive(t *testing.T) {
	a, b := entry(nameOf("a"), 1, 80), entry(nameOf("b"), 0, 40)
	for _, now := range []int{39, 40, 41} {
		p := filled(t, 2, 10, a, b)
		x := entry(nameOf("b"), 0, 90)
		p.put(t, x, now)
		p.holds(t, "P14.1: its own place", a, x)
	}
}

// gonePlace gives which of the entries is gone when one more comes, their names and types being all there are.
func gonePlace(t *testing.T, entries []api.Neg, more api.Neg) int {
	t.Helper()
	p := filled(t, len(entries), 10, entries...)
	p.put(t, more, 10)
	all := p.all(t)
	gone := -1
	for i, x := range entries {
		if !slices.Contains(all, x) {
			if gone >= 0 {
				t.Fatalf("P14.1: more than one is gone: %s", tell(all))
			}
			gone = i
		}
	}
	return gone
}

// The least Until goes wherever it stands, whatever its name and type are.
func TestLeastUntilGoes(t *testing.T) {
	more := entry(nameOf("more"), 7, 20)
	for size := 1; size <= 12; size++ {
		for at := range size {
			var entries []api.Neg
			for i := range size {
				entries = append(entries, entry(nameOf(fmt.Sprint(i*5%13)), i%3, 100+i*7%13))
			}
			entries[at].Until = 99
			if gone := gonePlace(t, entries, more); gone != at {
				t.Errorf("P14.1: %d is gone, want %d of %s", gone, at, tell(entries))
			}
		}
	}
}

// Of several of the least Until the first goes, by Compare of names, then by Type.
func TestSeveralOfTheLeastUntil(t *testing.T) {
	names := rising()
	more := entry(nameOf("more"), 7, 20)
	for i := range names {
		for j := range i {
			late, early := entry(names[i], 0, 50), entry(names[j], 2, 50)
			if gone := gonePlace(t, []api.Neg{late, early}, more); gone != 1 {
				t.Errorf("P14.1: %q and %q: %d is gone", names[i], names[j], gone)
			}
			if gone := gonePlace(t, []api.Neg{early, late}, more); gone != 0 {
				t.Errorf("P14.1: %q and %q: %d is gone", names[j], names[i], gone)
			}
		}
	}
	for _, kinds := range [][]int{{0, 1}, {1, 2}, {2, 10}, {9, 10}, {0, 256}, {1, 256}, {255, 256}, {256, 257}, {0, 65535}, {65534, 65535}, {32767, 32768}} {
		low, high := entry(nameOf("a"), kinds[0], 50), entry(nameOf("a"), kinds[1], 50)
		if gonePlace(t, []api.Neg{low, high}, more) != 0 || gonePlace(t, []api.Neg{high, low}, more) != 1 {
			t.Errorf("P14.1: the types %v", kinds)
		}
	}
}

// Of many, in any row, the first of those of the least Until goes.
func TestFirstOfManyGoes(t *testing.T) {
	r := rand.New(rand.NewSource(1))
	more := entry(nameOf("more"), 7, 20)
	for range 200 {
		var entries []api.Neg
		for _, n := range rising() {
			for kind := range 2 {
				entries = append(entries, entry(n, kind, 50))
			}
		}
		k := r.Intn(len(entries))
		for i := range k {
			entries[i].Until = 51
		}
		want := entries[k]
		r.Shuffle(len(entries), func(i, j int) { entries[i], entries[j] = entries[j], entries[i] })
		if gone := gonePlace(t, entries, more); entries[gone] != want {
			t.Fatalf("P14.1: %s is gone, want %s", tell(entries[gone]), tell(want))
		}
	}
}

// One Until for all: they go one by one in the row of All.
func TestAllOfOneUntil(t *testing.T) {
	names := rising()
	p := newPair(t, len(names))
	for i := range names {
		p.put(t, entry(names[i*7%len(names)], 0, 50), 10)
	}
	for i := range names {
		if all := p.all(t); all[0].Name != names[i] {
			t.Fatalf("P14.1: ahead stands %q, want %q", all[0].Name, names[i])
		}
		p.put(t, entry(nameOf(fmt.Sprint(i), "\xff"), 5, 60), 10)
		if all := p.all(t); len(all) != len(names) {
			t.Fatalf("P14.1: %d are held", len(all))
		}
		p.isNx(t, "what is gone", names[i], 10, false)
	}
}

// Live up to the tick ahead of Until, and no longer; neither call takes anything away, and what they say does not hang on when they were asked before.
func TestLastTickOfAnEntry(t *testing.T) {
	for _, until := range []int{1, 2, 60, 1 << 31, 1 << 32, last, last + 1, last + 3600} {
		for kind := range 2 {
			x := entry(nameOf("a"), kind, until)
			p := filled(t, 2, 0, x, entry(nameOf("a"), 1-kind, 9))
			was := p.g.All()
			for _, back := range []int{1, 2, 3, 59, until} {
				p.isThere(t, "live", x, until-back, true)
			}
			for _, on := range []int{0, 1, 2, 3600, 1 << 40, 1 << 50} {
				p.isThere(t, "not live", x, until+on, false)
			}
			p.holds(t, "P14.2: nothing is taken away", was...)
			p.isThere(t, "live again at an earlier tick", x, until-1, true)
		}
	}
}

func TestKeysThatAreNotHeld(t *testing.T) {
	p := filled(t, 8, 10, entry(nameOf("a"), 1, 60), entry(nameOf("b", "a"), 0, 70), entry(root, 65535, 80), entry(nameOf("\xe1"), 0, 90))
	was := p.g.All()
	for _, now := range []int{10, 0, -1, 59, 60, 79, 80, last, last + 1, math.MinInt, math.MaxInt} {
		for _, n := range noNames() {
			p.isNx(t, "no name", n, now, false)
			for _, kind := range []int{0, 1, 2, 65535, -1, 65536} {
				p.isNodata(t, "no name", n, kind, now, false)
			}
		}
		for _, kind := range []int{0, 2, 3, -1, 257, 65535, 65536, 65537, 1<<32 + 1, -1<<32 + 1, math.MinInt, math.MinInt + 1, math.MaxInt} {
			p.isNodata(t, "a type that is not held", nameOf("a"), kind, now, false)
			p.isNodata(t, "Nx alone is held", nameOf("b", "a"), kind, now, false)
		}
		for _, n := range []string{nameOf("a"), nameOf("b"), nameOf("a", "b"), nameOf("aa"), nameOf("a", "a"), nameOf("c", "b", "a"), nameOf("`"), root, nameOf("\xc1")} {
			p.isNx(t, "a name that is not held", n, now, false)
			p.isNodata(t, "a name that is not held", n, 2, now, false)
		}
	}
	p.holds(t, "P14.2: nothing is taken away", was...)
}

// At both sides of 1 and of 65,535, with all types of the name held that there may be at these edges.
func TestTypesThatAreAsked(t *testing.T) {
	n := nameOf("a")
	held := []int{0, 1, 2, 65534, 65535}
	p := newPair(t, 8)
	for i, kind := range held {
		p.put(t, entry(n, kind, 60+i), 10)
	}
	for _, now := range []int{10, 59, 60, 61, 62, 63, 64, 65, -1, math.MinInt, math.MaxInt} {
		for i, kind := range held {
			p.isNodata(t, "held", n, kind, now, kind > 0 && now < 60+i)
		}
		for _, kind := range []int{-1, -2, 3, 65533, 65536, 65537, 1 << 17, 1 << 32, 1<<32 + 1, -65536, -65535, -1 << 32, -1<<32 + 1, math.MinInt, math.MinInt + 1, math.MaxInt} {
			p.isNodata(t, "not held", n, kind, now, false)
		}
	}
}

// Any now: it need be no tick at which something could be put.
func TestAnyNow(t *testing.T) {
	for kind := range 2 {
		x := entry(nameOf("a"), kind, 60)
		p := filled(t, 2, 10, x)
		for _, now := range []int{-1, -2, -60, -1 << 32, -1 << 40, -1<<40 - 1, -1 << 62, math.MinInt, math.MinInt + 1} {
			p.isThere(t, "ahead of all ticks", x, now, true)
			p.isThere(t, "another one", entry(nameOf("b"), kind, 60), now, false)
			p.isThere(t, "another one", entry(nameOf("a"), 1-kind, 60), now, false)
		}
		for _, now := range []int{60, 61, last, last + 1, 1 << 62, math.MaxInt} {
			p.isThere(t, "behind it", x, now, false)
		}
		x = entry(nameOf("a"), kind, math.MaxInt)
		p = filled(t, 2, last, x)
		for _, now := range []int{0, 1, last + 1, math.MaxInt - 1} {
			p.isThere(t, "until the last number", x, now, true)
		}
		p.isThere(t, "the last number", x, math.MaxInt, false)
	}
}

func TestRowOfAll(t *testing.T) {
	newPair(t, 3).holds(t, "P14.2: none")
	filled(t, 3, 10, entry(nameOf("a"), 0, 11)).holds(t, "P14.2: one", entry(nameOf("a"), 0, 11))
	var want []api.Neg
	for i, n := range rising() {
		for j, kind := range []int{0, 1, 2, 10, 256, 65535} {
			want = append(want, entry(n, kind, 20+(i*5+j*3)%17))
		}
	}
	r := rand.New(rand.NewSource(2))
	for range 30 {
		row := slices.Clone(want)
		r.Shuffle(len(row), func(i, j int) { row[i], row[j] = row[j], row[i] })
		p := newPair(t, 256)
		for _, x := range row {
			x.Name = []string{x.Name, great(x.Name)}[r.Intn(2)]
			if e := p.g.Put(x, 10); e != api.OK {
				t.Fatalf("P14.1: %d", e)
			}
		}
		if got := p.g.All(); !slices.Equal(got, want) {
			t.Fatalf("P14.2: %s, want %s", tell(got), tell(want))
		}
	}
}

// Every row of up to five calls out of puts that differ in little, at ticks that go on and back, into ones of a size of one to three.
func TestEveryShortRowOfPuts(t *testing.T) {
	a, b := nameOf("a"), nameOf("b")
	kinds := []struct {
		x   api.Neg
		now int
	}{
		{entry(a, 0, 4), 2}, {entry(nameOf("A"), 0, 3), 2}, {entry(a, 0, 6), 3}, {entry(a, 1, 4), 3}, {entry(b, 0, 4), 1},
		{entry(nameOf("a", "B"), 0, 5), 4}, {entry(b, 0, 9), 5}, {entry(b, 0, 5), 5}, {entry(root, 2, 4), 0},
	}
	for most := 1; most <= 3; most++ {
		rows := 1
		for size := range 6 {
			for x := range rows {
				g, _ := neg.New(most)
				m := model{most: most}
				for range size {
					c := kinds[x%len(kinds)]
					x /= len(kinds)
					if got, want := g.Put(c.x, c.now), m.put(c.x, c.now); got != want {
						t.Fatalf("P14.1: Put(%s, %d) = %d, want %d", tell(c.x), c.now, got, want)
					}
				}
				if got := g.All(); !slices.Equal(got, m.held) {
					t.Fatalf("P14.1: a size of %d: %s, want %s", most, tell(got), tell(m.held))
				}
			}
			rows *= len(kinds)
		}
	}
}

// someName gives a name of few labels out of few.
func someName(r *rand.Rand) string {
	labels := []string{"a", "b", "A", "B", "ab", "\x00", "\xff", "z"}
	var out []string
	for range r.Intn(4) {
		out = append(out, labels[r.Intn(len(labels))])
	}
	return nameOf(out...)
}

// someEntry gives an entry that may be put at now, now and then one that may not.
func someEntry(r *rand.Rand, now int, lasts int) api.Neg {
	x := entry(someName(r), r.Intn(3), now+1+r.Intn(lasts))
	if r.Intn(20) > 0 {
		return x
	}
	switch r.Intn(3) {
	case 0:
		x.Name = noNames()[r.Intn(len(noNames()))]
	case 1:
		x.Type = []int{-1, 65536}[r.Intn(2)]
	case 2:
		x.Until = now - r.Intn(2)
	}
	return x
}

func TestSomeCalls(t *testing.T) {
	r := rand.New(rand.NewSource(3))
	put, nx, nodata := map[api.Errno]int{}, map[bool]int{}, map[bool]int{}
	for _, most := range []int{1, 2, 3, 5, 8, 16, 40, 100, 255, 256} {
		for range 8 {
			p := newPair(t, most)
			now, lasts := r.Intn(100), 1+r.Intn(4*most)
			for range 400 {
				now = max(0, now+r.Intn(4)-r.Intn(2))
				put[p.put(t, someEntry(r, now, lasts), now)]++
				nx[p.nx(t, someName(r), now+r.Intn(lasts)-r.Intn(3))]++
				nodata[p.nodata(t, someName(r), r.Intn(4), now+r.Intn(lasts)-r.Intn(3))]++
			}
		}
	}
	if put[api.OK] < 20000 || put[api.ErrNegForm] < 1000 || len(put) != 2 || min(nx[true], nx[false], nodata[true], nodata[false]) < 1000 {
		t.Errorf("not enough of each kind: %v, %v, %v", put, nx, nodata)
	}
}

// The same calls give the same answers each time, however a map is gone through.
func TestOneAnswerEachTime(t *testing.T) {
	var want []api.Neg
	for turn := range 50 {
		r := rand.New(rand.NewSource(4))
		g, _ := neg.New(20)
		for range 300 {
			g.Put(entry(someName(r), r.Intn(2), 50+r.Intn(2)), 10)
		}
		got := g.All()
		if turn == 0 {
			want = got
		}
		if len(got) != 20 || !slices.Equal(got, want) {
			t.Fatalf("R5: %s, and %s", tell(want), tell(got))
		}
	}
}

func TestEachIsItsOwn(t *testing.T) {
	one, two := newPair(t, 1), newPair(t, 2)
	a, b := entry(nameOf("a"), 0, 60), entry(nameOf("b"), 0, 70)
	one.put(t, a, 10)
	two.holds(t, "P14.1: another one")
	two.put(t, b, 10)
	two.put(t, entry(nameOf("a"), 0, 65), 10)
	one.put(t, b, 10)
	one.holds(t, "P14.1: room for one", b)
	two.holds(t, "P14.1: room for two", entry(nameOf("a"), 0, 65), b)
}

func TestNilNegs(t *testing.T) {
	var none *neg.Negs
	for _, x := range []api.Neg{{}, entry(nameOf("a"), 0, 60), entry(nameOf("a"), 1, 60), entry("", -1, 0)} {
		for _, now := range []int{10, -1, math.MinInt, math.MaxInt} {
			if e := none.Put(x, now); e != api.ErrNil {
				t.Errorf("R3: Put: %d", e)
			}
			if none.Nx(x.Name, now) || none.Nodata(x.Name, x.Type, now) {
				t.Errorf("R3: %s at %d", tell(x), now)
			}
		}
	}
	if all := none.All(); len(all) != 0 {
		t.Errorf("R3: All: %s", tell(all))
	}
}

// Of one that New did not make no more is asked than R1 asks.
func TestNegsThatNewDidNotMake(t *testing.T) {
	g := new(neg.Negs)
	if all := g.All(); len(all) != 0 {
		t.Errorf("R1: %s", tell(all))
	}
	if g.Nx(nameOf("a"), 0) || g.Nodata(nameOf("a"), 1, 0) || g.Nx(nameOf("a"), -1) || g.Nodata(nameOf("a"), 1, -1) {
		t.Error("R1: it holds nothing")
	}
	if e := g.Put(api.Neg{}, 0); e != api.ErrNegForm {
		t.Errorf("R1: %d", e)
	}
	for i := range 5 {
		g.Put(entry(nameOf(fmt.Sprint(i)), i%2, 60), 10)
		g.Nx(nameOf(fmt.Sprint(i)), 10)
		g.Nodata(nameOf(fmt.Sprint(i)), 1, 10)
		if all := g.All(); len(all) > 1 {
			t.Errorf("T5: it holds %d", len(all))
		}
	}
}

// view gives a string that changes with b.
func view(b []byte) string {
	return unsafe.String(unsafe.SliceData(b), len(b))
}

// What is handed in is as it was; writing over it changes nothing that is held.
func TestNothingHandedInIsKept(t *testing.T) {
	for _, first := range []string{nameOf("www", "a"), nameOf("WWW", "a")} {
		g, _ := neg.New(3)
		owner := []byte(first)
		for kind := range 2 {
			g.Put(entry(view(owner), kind, 60), 10)
			g.Nx(view(owner), 10)
			g.Nodata(view(owner), kind, 10)
		}
		g.Put(entry(view(owner), 1, 10), 10)
		if string(owner) != first {
			t.Errorf("R4: %q was changed to %q", first, owner)
		}
		copy(owner, nameOf("xyz", "b"))
		want := []api.Neg{entry(nameOf("www", "a"), 0, 60), entry(nameOf("www", "a"), 1, 60)}
		if got := g.All(); !slices.Equal(got, want) {
			t.Errorf("R4: %s, want %s", tell(got), tell(want))
		}
		if !g.Nx(first, 10) || !g.Nodata(first, 1, 10) || g.Nx(view(owner), 10) || g.Nodata(view(owner), 1, 10) {
			t.Error("R4: what is held hangs on what was handed in")
		}
	}
}

// Writing over what All answered, and the room behind it, changes neither what is held nor another answer.
func TestListsOfTheirOwn(t *testing.T) {
	r := rand.New(rand.NewSource(6))
	for range 300 {
		p := newPair(t, 12)
		for range 20 {
			p.put(t, someEntry(r, 10, 30), 10)
		}
		want := slices.Clone(p.m.held)
		one, two := p.g.All(), p.g.All()
		clear(one[:cap(one)])
		if !slices.Equal(two, want) {
			t.Fatalf("R4: two answers of All: %s, want %s", tell(two), tell(want))
		}
		two = append(two[:0], entry(nameOf("over"), 0, 1))
		clear(two[:cap(two)])
		p.all(t)
		for _, x := range want {
			p.isThere(t, "what is held", x, x.Until-1, true)
		}
	}
}

// shares says whether two strings lie in one piece of memory; those of one byte, which the language keeps in one place for all, do not count.
func shares(a, b string) bool {
	if len(a) < 2 || len(b) < 2 {
		return false
	}
	from, to := uintptr(unsafe.Pointer(unsafe.StringData(a))), uintptr(unsafe.Pointer(unsafe.StringData(b)))
	return from < to+uintptr(len(b)) && to < from+uintptr(len(a))
}

// No name that is answered lies in the memory of what was handed in, nor in another answer's, nor in another entry's; since each is cut anew, none is what is held.
func TestNamesOfTheirOwn(t *testing.T) {
	small := nameOf("small", "letters")
	given := []api.Neg{entry(small, 0, 60), entry(small, 1, 61), entry(nameOf("letters"), 2, 62), entry(nameOf("GREAT"), 0, 63)}
	p := filled(t, 9, 10, given...)
	var names []string
	for _, x := range append(given[1:], append(p.g.All(), append(p.g.All(), p.g.All()...)...)...) {
		names = append(names, x.Name)
	}
	for i, a := range names {
		for j, b := range names[:i] {
			if shares(a, b) {
				t.Errorf("R4: the names %d and %d, %q and %q, share memory", i, j, a, b)
			}
		}
	}
	// Written over, as no caller may, an answer's name shows whether it is what is held.
	name := p.g.All()[0].Name
	for i, b := 0, unsafe.Slice(unsafe.StringData(name), len(name)); i < len(b); i++ {
		b[i] = 'x'
	}
	p.all(t)
	for _, x := range given {
		p.isThere(t, "what is held", x, 10, true)
	}
}

// Those of several goroutines have nothing in common.
func TestSeveralGoroutines(t *testing.T) {
	var all sync.WaitGroup
	for turn := range 8 {
		all.Go(func() {
			r := rand.New(rand.NewSource(int64(turn)))
			g, _ := neg.New(10)
			m := model{most: 10}
			for now := range 1000 {
				x := someEntry(r, now, 30)
				if got, want := g.Put(x, now), m.put(x, now); got != want {
					t.Errorf("P14.1: Put(%s, %d) = %d, want %d", tell(x), now, got, want)
					return
				}
				if got := g.All(); !slices.Equal(got, m.held) {
					t.Errorf("P14.1: %s, want %s", tell(got), tell(m.held))
					return
				}
			}
		})
	}
	all.Wait()
}

// What costs most: a full one of the longest names that differ at their first label alone, all of one Until, and names far too long.
func TestItEndsSoon(t *testing.T) {
	began := time.Now()
	g, _ := neg.New(256)
	ones := strings.Repeat("\x01A", 125) + root
	for i := range 4000 {
		x := entry("\x03"+string([]byte{byte(i >> 16), byte(i >> 8), byte(i)})+ones[2:], 0, 60)
		if e := g.Put(x, 10); e != api.OK {
			t.Fatalf("P14.1: %d", e)
		}
	}
	for range 100 {
		if all := g.All(); len(all) != 256 {
			t.Fatalf("P14.2: %d are held", len(all))
		}
	}
	long := strings.Repeat("\x01a", 1<<20) + root
	for range 1000 {
		if g.Nx(long, 10) || g.Nodata(long, 1, 10) {
			t.Fatal("P14.2: no name")
		}
		if e := g.Put(entry(long, 0, 60), 10); e != api.ErrNegForm {
			t.Fatalf("P14.1: %d", e)
		}
	}
	for range 200000 {
		g.Nx(ones, 10)
		g.Nodata(ones, 1, 10)
	}
	if took := time.Since(began); took > 20*time.Second {
		t.Errorf("it took %v", took)
	}
}

func FuzzNegs(f *testing.F) {
	f.Add(2, nameOf("a"), nameOf("A"), 0, 2, 60, 70, 10, 50)
	f.Add(1, root, nameOf("b", "a"), 65535, 1, 11, 11, 10, 11)
	f.Add(256, "\x01a", nameOf("WWW"), -1, 65536, 1<<40+1, 5, 1<<40, -1)
	f.Fuzz(func(t *testing.T, most int, m, n string, kind, other int, until, later int, now, then int) {
		if g, e := neg.New(most); (e == api.OK) != (most >= 1 && most <= 256) || (g == nil) != (e != api.OK) {
			t.Fatalf("P14.1: New(%d) = %v, %d", most, g, e)
		}
		p := newPair(t, 1+most&3)
		for _, x := range []api.Neg{
			entry(m, kind, until), entry(n, other, later), entry(m, other, until), entry(n, kind, later),
			entry(m, kind&1, now+1+until&7), entry(n, other&1, now+1+later&7), entry(n, kind&1, now+2),
		} {
			p.put(t, x, now)
			p.put(t, x, then)
			p.nx(t, m, now)
			p.nx(t, n, then)
			p.nodata(t, m, kind, now)
			p.nodata(t, n, x.Type, then)
			p.nx(t, x.Name, x.Until-1)
			p.nodata(t, x.Name, x.Type, x.Until-1)
		}
	})
}
