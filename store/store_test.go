package store_test

import (
	"bytes"
	"fmt"
	"math"
	"math/rand"
	"slices"
	"strings"
	"sync"
	"testing"
	"time"
	"unsafe"

	"wimple/api"
	"wimple/store"
)

const (
	root = "\x00"

	// last is the last tick at which something may be put.
	last = 1 << 40
)

// nameOf gives the name of the labels.
func nameOf(labels ...string) string {
	out := ""
	for _, l := range labels {
		out += string([]byte{byte(len(l))}) + l
	}
	return out + root
}

// entry gives one whose data tells by which call it came; its Ttl is no number that anything asks for.
func entry(n string, kind int, rank int, until int, datas ...string) api.Entry {
	if len(datas) == 0 {
		datas = []string{"data"}
	}
	return api.Entry{Set: api.Set{Name: n, Type: kind, Ttl: 77, Datas: datas}, Rank: rank, Until: until}
}

// tell shortens what is told.
func tell(x any) string {
	s := fmt.Sprintf("%+q", fmt.Sprintf("%+v", x))
	if len(s) > 800 {
		return s[:800] + ".."
	}
	return s
}

// sameSet says whether two sets are, an empty list and nil being one; sameEntry and sameEntries say it of entries.
func sameSet(a, b api.Set) bool {
	return a.Name == b.Name && a.Type == b.Type && a.Ttl == b.Ttl && slices.Equal(a.Datas, b.Datas)
}

func sameEntry(a, b api.Entry) bool {
	return sameSet(a.Set, b.Set) && a.Rank == b.Rank && a.Until == b.Until
}

func sameEntries(a, b []api.Entry) bool {
	return slices.EqualFunc(a, b, sameEntry)
}

// copyOf gives an entry with lists of its own; copiesOf a list of them.
func copyOf(x api.Entry) api.Entry {
	x.Set.Datas = slices.Clone(x.Set.Datas)
	return x
}

func copiesOf(all []api.Entry) []api.Entry {
	out := make([]api.Entry, len(all))
	for i, x := range all {
		out[i] = copyOf(x)
	}
	return out
}

// mayName is chapter 1's head.
func mayName(n string) bool {
	size := len(n)
	for n != "" && n[0] >= 1 && n[0] <= 63 && len(n) > int(n[0]) {
		n = n[1+n[0]:]
	}
	return n == root && size <= 255
}

// folded is chapter 2's head: no length of a label is as great as a letter.
func folded(n string) string {
	out := []byte(n)
	for i, c := range out {
		if c >= 65 && c <= 90 {
			out[i] = c + 32
		}
	}
	return string(out)
}

// great gives a name with its small letters made great.
func great(n string) string {
	out := []byte(n)
	for i, c := range out {
		if c >= 97 && c <= 122 {
			out[i] = c - 32
		}
	}
	return string(out)
}

// backwards gives the labels of a name, folded, the last one ahead.
func backwards(n string) []string {
	var out []string
	for n = folded(n); n != root; n = n[1+n[0]:] {
		out = append([]string{n[1 : 1+n[0]]}, out...)
	}
	return out
}

// ahead says whether a stands ahead of b in the row of All: P2.3, then Type.
func ahead(a, b api.Entry) bool {
	c := slices.CompareFunc(backwards(a.Set.Name), backwards(b.Set.Name), func(x, y string) int { return bytes.Compare([]byte(x), []byte(y)) })
	return c < 0 || c == 0 && a.Set.Type < b.Set.Type
}

// mayPut is what P13.1 asks of an entry.
func mayPut(e api.Entry, now int) bool {
	return mayName(e.Set.Name) && e.Set.Type >= 1 && e.Set.Type <= 65535 && len(e.Set.Datas) > 0 && e.Rank >= 1 && e.Rank <= 3 && e.Until > now && now >= 0 && now <= 1099511627776
}

// model is a second reading of the chapter: a list, in the row of All.
type model struct {
	most int
	held []api.Entry
}

// find gives the place of the key's entry, be it live or not, or -1.
func (m *model) find(n string, kind int) int {
	for i, x := range m.held {
		if mayName(n) && x.Set.Name == folded(n) && x.Set.Type == kind {
			return i
		}
	}
	return -1
}

func (m *model) put(e api.Entry, now int) api.Errno {
	if !mayPut(e, now) {
		return api.ErrStoreForm
	}
	own := m.find(e.Set.Name, e.Set.Type)
	if own >= 0 && now < m.held[own].Until && m.held[own].Rank > e.Rank {
		return api.OK
	}
	var left []api.Entry
	for i, x := range m.held {
		if i != own && now < x.Until {
			left = append(left, x)
		}
	}
	if len(left) == m.most {
		gone := 0
		for i := range left {
			// The list stands in the row of All, so that of several the first is met first.
			if left[i].Until < left[gone].Until {
				gone = i
			}
		}
		left = slices.Delete(left, gone, gone+1)
	}
	e = copyOf(e)
	e.Set.Name = folded(e.Set.Name)
	at := 0
	for at < len(left) && ahead(left[at], e) {
		at++
	}
	m.held = slices.Insert(left, at, e)
	return api.OK
}

func (m *model) get(n string, kind int, now int) (api.Set, int, api.Errno) {
	own := m.find(n, kind)
	if own < 0 || now >= m.held[own].Until {
		return api.Set{}, 0, api.ErrStoreNone
	}
	x := copyOf(m.held[own])
	x.Set.Ttl = x.Until - now
	return x.Set, x.Rank, api.OK
}

// pair is a store and its model; each call is made of both, and what they answer held against each other.
type pair struct {
	s *store.Store
	m model
}

func newPair(t *testing.T, most int) *pair {
	t.Helper()
	s, e := store.New(most)
	if s == nil || e != api.OK {
		t.Fatalf("P13.1: New(%d) = %v, %d", most, s, e)
	}
	return &pair{s: s, m: model{most: most}}
}

// filled gives a pair that was put the entries at tick now.
func filled(t *testing.T, most int, now int, entries ...api.Entry) *pair {
	t.Helper()
	p := newPair(t, most)
	for _, x := range entries {
		if e := p.put(t, x, now); e != api.OK {
			t.Fatalf("P13.1: Put(%s, %d) = %d", tell(x), now, e)
		}
	}
	return p
}

func (p *pair) put(t *testing.T, x api.Entry, now int) api.Errno {
	t.Helper()
	got, want := p.s.Put(x, now), p.m.put(x, now)
	if got != want {
		t.Fatalf("P13.1: Put(%s, %d) = %d, want %d", tell(x), now, got, want)
	}
	p.all(t)
	return got
}

func (p *pair) get(t *testing.T, n string, kind int, now int) (api.Set, int, api.Errno) {
	t.Helper()
	got, rank, e := p.s.Get(n, kind, now)
	if want, r, f := p.m.get(n, kind, now); !sameSet(got, want) || rank != r || e != f {
		t.Fatalf("P13.2: Get(%q, %d, %d) = %s, %d, %d, want %s, %d, %d", n, kind, now, tell(got), rank, e, tell(want), r, f)
	}
	return got, rank, e
}

func (p *pair) all(t *testing.T) []api.Entry {
	t.Helper()
	got := p.s.All()
	if !sameEntries(got, p.m.held) {
		t.Fatalf("P13.2: All() = %s, want %s", tell(got), tell(p.m.held))
	}
	return got
}

// holds holds All against entries that are written out.
func (p *pair) holds(t *testing.T, what string, want ...api.Entry) {
	t.Helper()
	if got := p.all(t); !sameEntries(got, want) {
		t.Errorf("%s: %s, want %s", what, tell(got), tell(want))
	}
}

// gives holds Get against a set that is written out; givesNone that there is none.
func (p *pair) gives(t *testing.T, what string, n string, kind int, now int, want api.Set, rank int) {
	t.Helper()
	if got, r, e := p.get(t, n, kind, now); !sameSet(got, want) || r != rank || e != api.OK {
		t.Errorf("P13.2: %s: %s, %d, %d, want %s, %d", what, tell(got), r, e, tell(want), rank)
	}
}

func (p *pair) givesNone(t *testing.T, what string, n string, kind int, now int) {
	t.Helper()
	if got, r, e := p.get(t, n, kind, now); got.Name != "" || got.Type != 0 || got.Ttl != 0 || got.Datas != nil || r != 0 || e != api.ErrStoreNone {
		t.Errorf("P13.2: %s: %s, %d, %d", what, tell(got), r, e)
	}
}

// noNames gives bytes of all kinds that are no name.
func noNames() []string {
	long := strings.Repeat("a", 63)
	return []string{
		"", "a", "com", ".", "\x01", "\x01a", "\x02a\x00", "\x3f\x00", "\x00\x00", "\x00\x01a\x00", "\x01a\x00\x00", "\x01a\x00b", "\xc0\x0c", "\x01a\xc0\x00",
		"\x40" + long + "a\x00", nameOf(long, long, long, long[:62]), strings.Repeat("\x01a", 128) + root, strings.Repeat("\x00", 1<<16),
	}
}

// oddNames gives names at the edges of what one is, folded.
func oddNames() []string {
	long := strings.Repeat("a", 63)
	return []string{root, nameOf("a"), nameOf(long), nameOf(long, long, long, long[:61]), strings.Repeat("\x01a", 127) + root, nameOf("\x00"), nameOf("\xff\xc0.\\")}
}

// rising gives names in the canonical order, which is neither that of their bytes nor that of their lengths.
func rising() []string {
	return []string{
		root, nameOf("\x00"), nameOf("-"), nameOf("0"), nameOf("["), nameOf("`"), nameOf("a"), nameOf("zzz", "a"), nameOf("a", "zzz", "a"), nameOf("\x00", "a\x00"), nameOf("a", "aa"), nameOf("aaa"), nameOf("b"),
		nameOf("a", "b"), nameOf("aa", "b"), nameOf("b", "b"), nameOf("c"), nameOf("example"), nameOf("a", "example"), nameOf("yljkjljk", "a", "example"), nameOf("z", "a", "example"), nameOf("z", "example"),
		nameOf("{"), nameOf("\x7f"), nameOf("\x80"), nameOf("\xff"),
	}
}

func TestNumbersOfTheDocument(t *testing.T) {
	if api.MaxCache != 256 || api.RankGlue != 1 || api.RankRefer != 2 || api.RankAnswer != 3 || api.ErrStoreForm != 1300 || api.ErrStoreNone != 1301 || api.ErrNil != 1 {
		t.Error("package api is not as it was given")
	}
}

func TestNewAtItsEdges(t *testing.T) {
	for _, most := range []int{0, -1, -2, -255, -256, 257, 258, 512, 65537, 1<<32 + 1, -1<<32 + 1, math.MinInt, math.MinInt + 1, math.MaxInt} {
		if s, e := store.New(most); s != nil || e != api.ErrStoreForm {
			t.Errorf("P13.1: New(%d) = %v, %d", most, s, e)
		}
	}
	for most := 1; most <= 256; most++ {
		if all := newPair(t, most).all(t); len(all) != 0 {
			t.Errorf("P13.1: a new store holds %s", tell(all))
		}
	}
}

// Each size is kept: so many are held, and never one more.
func TestStoresStayWithinTheirSizes(t *testing.T) {
	for _, most := range []int{1, 2, 3, 7, 8, 9, 127, 128, 129, 254, 255, 256} {
		p := newPair(t, most)
		for i := range most + 20 {
			x := entry(nameOf(fmt.Sprint(i)), 1+i%3, 1+i%3, 1000+i*7919%5000)
			if e := p.put(t, x, 9); e != api.OK {
				t.Fatalf("P13.1: %d", e)
			}
			if all := p.all(t); len(all) != min(i+1, most) {
				t.Fatalf("P13.1: behind %d of them a store of %d holds %d", i+1, most, len(all))
			}
			p.get(t, x.Set.Name, x.Set.Type, 10)
		}
	}
}

func TestOrdinaryEntries(t *testing.T) {
	www, ns, zone := nameOf("www", "example"), nameOf("ns", "example"), nameOf("example")
	p := newPair(t, 256)
	p.holds(t, "a new one")
	p.givesNone(t, "a new one", www, 1, 0)
	address, host, server := entry(www, 1, 3, 160, "abcd", "abce"), entry(ns, 1, 1, 130, "abcf"), entry(zone, 2, 2, 200, ns)
	for _, x := range []api.Entry{address, host, server} {
		if e := p.put(t, x, 100); e != api.OK {
			t.Fatalf("P13.1: Put(%s) = %d", tell(x), e)
		}
	}
	p.holds(t, "three", server, host, address)
	p.gives(t, "an answer", www, 1, 100, api.Set{Name: www, Type: 1, Ttl: 60, Datas: []string{"abcd", "abce"}}, 3)
	p.gives(t, "an answer, later", www, 1, 140, api.Set{Name: www, Type: 1, Ttl: 20, Datas: []string{"abcd", "abce"}}, 3)
	p.gives(t, "glue", ns, 1, 101, api.Set{Name: ns, Type: 1, Ttl: 29, Datas: []string{"abcf"}}, 1)
	p.gives(t, "a referral's", zone, 2, 101, api.Set{Name: zone, Type: 2, Ttl: 99, Datas: []string{ns}}, 2)
	p.givesNone(t, "another type", www, 2, 100)
	p.givesNone(t, "another name", nameOf("example", "www"), 1, 100)
	p.givesNone(t, "a name above", nameOf(), 2, 100)
}

// faults gives what makes a right entry at tick 50 a wrong one.
func faults() map[string]func(x *api.Entry, now *int) {
	return map[string]func(x *api.Entry, now *int){
		"no name":           func(x *api.Entry, now *int) { x.Set.Name = "" },
		"a name cut":        func(x *api.Entry, now *int) { x.Set.Name = "\x02a\x00" },
		"type 0":            func(x *api.Entry, now *int) { x.Set.Type = 0 },
		"type 65536":        func(x *api.Entry, now *int) { x.Set.Type = 65536 },
		"no datas":          func(x *api.Entry, now *int) { x.Set.Datas = nil },
		"an empty list":     func(x *api.Entry, now *int) { x.Set.Datas = x.Set.Datas[:0] },
		"rank 0":            func(x *api.Entry, now *int) { x.Rank = 0 },
		"rank 4":            func(x *api.Entry, now *int) { x.Rank = 4 },
		"until now":         func(x *api.Entry, now *int) { x.Until = *now },
		"until before":      func(x *api.Entry, now *int) { x.Until = *now - 1 },
		"now before all":    func(x *api.Entry, now *int) { *now = -1 },
		"now behind all":    func(x *api.Entry, now *int) { *now, x.Until = last+1, last+9 },
		"now behind it all": func(x *api.Entry, now *int) { *now = last + 1 },
	}
}

// worn gives a full store of 4 with live entries and two that are not live at tick 50.
func worn(t *testing.T) *pair {
	t.Helper()
	return filled(t, 4, 10, entry(nameOf("a"), 1, 3, 60, "old"), entry(nameOf("a"), 2, 1, 50, "gone"), entry(nameOf("b"), 1, 2, 49, "gone"), entry(root, 1, 1, 90))
}

// unmoved holds that a Put is refused, and that All and Get answer as they did.
func unmoved(t *testing.T, what string, p *pair, x api.Entry, now int) {
	t.Helper()
	was := p.s.All()
	if e := p.put(t, x, now); e != api.ErrStoreForm {
		t.Errorf("P13.1: %s: %d", what, e)
	}
	p.holds(t, what, was...)
	for _, y := range was {
		for _, at := range []int{now, y.Until - 1, y.Until} {
			p.get(t, y.Set.Name, y.Set.Type, at)
		}
	}
	p.get(t, x.Set.Name, x.Set.Type, now)
}

// Each fault alone and each two of them together; a Put that is refused changes nothing, be it of a key that is held or not.
func TestWrongEntries(t *testing.T) {
	if e := worn(t).put(t, entry(nameOf("a"), 1, 3, 70, "new"), 50); e != api.OK {
		t.Fatalf("P13.1: without a fault: %d", e)
	}
	for one, spoil := range faults() {
		for two, more := range faults() {
			for _, n := range []string{nameOf("a"), nameOf("A"), nameOf("c")} {
				x, now := entry(n, 1, 3, 70, "new"), 50
				spoil(&x, &now)
				more(&x, &now)
				if !mayPut(x, now) {
					unmoved(t, one+" and "+two, worn(t), x, now)
				}
			}
		}
	}
	unmoved(t, "all at once", worn(t), api.Entry{}, -1)
	unmoved(t, "nothing at all", worn(t), api.Entry{}, 0)
	unmoved(t, "nothing at all", worn(t), api.Entry{Until: math.MinInt}, math.MaxInt)
}

func TestNames(t *testing.T) {
	for _, n := range noNames() {
		unmoved(t, "no name", worn(t), entry(n, 1, 3, 70), 50)
		unmoved(t, "no name", newPair(t, 1), entry(n, 1, 3, 70), 50)
	}
	p := newPair(t, 256)
	for i, n := range oddNames() {
		if e := p.put(t, entry(n, 1, 3, 70+i), 50); e != api.OK {
			t.Errorf("P13.1: the name %q: %d", n, e)
		}
		p.gives(t, "an odd name", n, 1, 50, api.Set{Name: n, Type: 1, Ttl: 20 + i, Datas: []string{"data"}}, 3)
		p.gives(t, "in great letters", great(n), 1, 50, api.Set{Name: n, Type: 1, Ttl: 20 + i, Datas: []string{"data"}}, 3)
	}
}

func TestTypesAtTheirEdges(t *testing.T) {
	for _, kind := range []int{0, -1, -2, 65536, 65537, 1<<32 + 1, -65535, -1<<32 + 1, math.MinInt, math.MinInt + 1, math.MaxInt} {
		unmoved(t, fmt.Sprintf("the type %d", kind), worn(t), entry(nameOf("a"), kind, 3, 70), 50)
	}
	for _, kind := range []int{1, 2, 41, 254, 255, 256, 32767, 32768, 65534, 65535} {
		if e := worn(t).put(t, entry(nameOf("a"), kind, 3, 70), 50); e != api.OK {
			t.Errorf("P13.1: the type %d: %d", kind, e)
		}
	}
}

// Every type is a key of its own.
func TestEveryType(t *testing.T) {
	for kind := 1; kind < 65535; kind++ {
		s, _ := store.New(2)
		one, two := entry(nameOf("a"), kind, 1, 70, "one"), entry(nameOf("a"), kind+1, 2, 60, "two")
		if e, f := s.Put(two, 50), s.Put(one, 50); e != api.OK || f != api.OK {
			t.Fatalf("P13.1: the type %d and the next: %d, %d", kind, f, e)
		}
		if all := s.All(); !sameEntries(all, []api.Entry{one, two}) {
			t.Fatalf("P13.2: the type %d and the next: %s", kind, tell(all))
		}
		if got, rank, e := s.Get(nameOf("a"), kind, 50); got.Datas[0] != "one" || got.Type != kind || rank != 1 || e != api.OK {
			t.Fatalf("P13.2: the type %d: %s, %d, %d", kind, tell(got), rank, e)
		}
	}
}

func TestRanksAtTheirEdges(t *testing.T) {
	for _, rank := range []int{0, -1, -2, -3, 4, 5, 255, 257, 1<<32 + 1, math.MinInt, math.MinInt + 2, math.MaxInt} {
		unmoved(t, fmt.Sprintf("the rank %d", rank), worn(t), entry(nameOf("b"), 1, rank, 70), 50)
		unmoved(t, fmt.Sprintf("the rank %d below the one held", rank), worn(t), entry(nameOf("a"), 1, rank, 70), 50)
	}
	for rank := 1; rank <= 3; rank++ {
		p := newPair(t, 1)
		if e := p.put(t, entry(nameOf("b"), 1, rank, 70), 50); e != api.OK {
			t.Errorf("P13.1: the rank %d: %d", rank, e)
		}
		p.gives(t, "its rank", nameOf("b"), 1, 50, api.Set{Name: nameOf("b"), Type: 1, Ttl: 20, Datas: []string{"data"}}, rank)
	}
}

// What a set's data and Ttl are is no matter of the store's, as long as there is data.
func TestDatasAndTtls(t *testing.T) {
	n := nameOf("a")
	for _, datas := range [][]string{{""}, {"", ""}, {"b", "a"}, {"a", "a", "a"}, {"abc"}, {strings.Repeat("x", 70000)}, slices.Repeat([]string{"y"}, 1000)} {
		for _, ttl := range []int{0, 1, -1, 86401, 1 << 32, math.MinInt, math.MaxInt} {
			x := entry(n, 1, 2, 70, datas...)
			x.Set.Ttl = ttl
			p := filled(t, 1, 50, x)
			p.holds(t, "P13.2: as it was put", x)
			p.gives(t, "its datas", n, 1, 60, api.Set{Name: n, Type: 1, Ttl: 10, Datas: datas}, 2)
		}
	}
	unmoved(t, "an empty list with room", worn(t), api.Entry{Set: api.Set{Name: n, Type: 1, Datas: make([]string, 0, 8)}, Rank: 3, Until: 70}, 50)
	full := []string{"behind", "behind"}
	unmoved(t, "an empty list with data behind it", worn(t), api.Entry{Set: api.Set{Name: n, Type: 1, Datas: full[:0]}, Rank: 3, Until: 70}, 50)
}

func TestTicksAtTheirEdges(t *testing.T) {
	n := nameOf("q")
	for _, now := range []int{-1, -2, -1 << 40, 1<<40 + 1, 1<<40 + 2, 1 << 41, 1 << 62, math.MinInt, math.MinInt + 5, math.MaxInt - 1, math.MaxInt} {
		for _, until := range []int{now - 1, now, now + 1, 0, 1, 50, last, last + 1, last + 2, math.MaxInt} {
			unmoved(t, fmt.Sprintf("now %d, until %d", now, until), worn(t), entry(n, 1, 1, until), now)
		}
	}
	for _, now := range []int{0, 1, 2, 1<<31 - 1, 1 << 31, 1<<32 - 1, 1 << 32, 1<<40 - 1, 1 << 40} {
		for _, until := range []int{now, now - 1, now - 2, 0, -1, -last, math.MinInt, math.MinInt + 1} {
			unmoved(t, fmt.Sprintf("now %d, until %d", now, until), worn(t), entry(n, 1, 1, until), now)
		}
		for _, until := range []int{now + 1, now + 2, now + 86400, now + 1<<32, last + 1, math.MaxInt - 1, math.MaxInt} {
			p := worn(t)
			if e := p.put(t, entry(n, 1, 1, until), now); e != api.OK {
				t.Errorf("P13.1: now %d, until %d: %d", now, until, e)
			}
			p.gives(t, "at once", n, 1, now, api.Set{Name: n, Type: 1, Ttl: until - now, Datas: []string{"data"}}, 1)
		}
	}
}

// Each two ranks, with the entry that is held live for long, for one tick more, just no longer and long no more.
func TestRanksOfOneKey(t *testing.T) {
	n := nameOf("a")
	beside := entry(nameOf("b"), 1, 1, 1000, "beside")
	for older := 1; older <= 3; older++ {
		for newer := 1; newer <= 3; newer++ {
			for _, until := range []int{500, 51, 50, 49, 11} {
				for _, most := range []int{2, 3, 256} {
					for _, fresh := range []int{51, 100, 500, 900} {
						old, x := entry(n, 1, older, until, "old"), entry(n, 1, newer, fresh, "new")
						p := filled(t, most, 10, beside, old)
						if e := p.put(t, x, 50); e != api.OK {
							t.Fatalf("P13.1: %d", e)
						}
						if older > newer && until > 50 {
							p.holds(t, "P13.1: a greater rank", old, beside)
						} else {
							p.holds(t, "P13.1: no greater rank", x, beside)
						}
					}
				}
			}
		}
	}
}

// A rank counts for its own key alone.
func TestRanksOfOtherKeys(t *testing.T) {
	best, other, deeper := entry(nameOf("a"), 1, 3, 100, "best"), entry(nameOf("a"), 2, 1, 100, "type"), entry(nameOf("a", "a"), 1, 1, 100, "name")
	p := filled(t, 3, 10, best, other, deeper)
	p.holds(t, "P13.1: three keys", best, other, deeper)
	p = filled(t, 2, 10, best, entry(nameOf("b"), 1, 3, 20, "least"), deeper)
	p.holds(t, "P13.1: a greater rank is gone all the same", best, deeper)
}

// Where nothing is done nothing goes: neither what is not live nor, in a full store, the one of the least Until.
func TestNothingIsDone(t *testing.T) {
	p := worn(t)
	was := p.s.All()
	for rank := 1; rank <= 2; rank++ {
		for _, n := range []string{nameOf("a"), nameOf("A")} {
			for _, until := range []int{51, 60, 61, 1000} {
				if e := p.put(t, entry(n, 1, rank, until, "new", "more"), 50); e != api.OK {
					t.Errorf("P13.1: %d", e)
				}
				p.holds(t, "P13.1: nothing is done", was...)
			}
		}
	}
	// At its last tick it is still in the way, at the next one it is not.
	p.put(t, entry(nameOf("a"), 1, 1, 70, "new"), 59)
	p.holds(t, "P13.1: its last tick", was...)
	p.put(t, entry(nameOf("a"), 1, 1, 70, "new"), 60)
	p.holds(t, "P13.1: behind its last tick", entry(root, 1, 1, 90), entry(nameOf("a"), 1, 1, 70, "new"))
}

// Any Put that is carried out takes away all that is not live, in a store that has room too.
func TestWhatIsNotLiveGoes(t *testing.T) {
	for _, most := range []int{5, 6, 256} {
		long, short, ended := entry(nameOf("a"), 1, 3, 60), entry(nameOf("b"), 1, 3, 51), entry(nameOf("c"), 1, 3, 50)
		worse, older := entry(nameOf("d"), 1, 1, 49), entry(nameOf("d"), 2, 3, 11)
		p := filled(t, most, 10, ended, worse, long, older, short)
		p.holds(t, "P13.2: what is not live among them", long, short, ended, worse, older)
		x := entry(nameOf("bb"), 9, 1, 52)
		p.put(t, x, 50)
		p.holds(t, "P13.1: what is not live is gone", long, short, x)
		p.put(t, x, 51)
		p.holds(t, "P13.1: and a tick later", long, x)
	}
	// All at once, the key's own one too.
	p := filled(t, 3, 10, entry(nameOf("a"), 1, 3, 20), entry(nameOf("b"), 1, 3, 21), entry(nameOf("c"), 1, 3, 22))
	p.put(t, entry(nameOf("b"), 1, 1, 90, "new"), 80)
	p.holds(t, "P13.1: all of them", entry(nameOf("b"), 1, 1, 90, "new"))
	// A Put at an earlier tick finds live what a later one would not.
	p.put(t, entry(nameOf("c"), 1, 1, 85), 5)
	p.put(t, entry(nameOf("d"), 1, 1, 7), 6)
	p.holds(t, "P13.1: an earlier tick", entry(nameOf("b"), 1, 1, 90, "new"), entry(nameOf("c"), 1, 1, 85), entry(nameOf("d"), 1, 1, 7))
}

func TestNamesInBothCases(t *testing.T) {
	small, great, mixed := nameOf("www", "example"), nameOf("WWW", "EXAMPLE"), nameOf("wWw", "eXample")
	for _, n := range []string{small, great, mixed} {
		p := filled(t, 4, 10, entry(n, 1, 2, 60, "Data"))
		p.holds(t, "P13.1: its name folded", entry(small, 1, 2, 60, "Data"))
		for _, m := range []string{small, great, mixed} {
			p.gives(t, "one name", m, 1, 20, api.Set{Name: small, Type: 1, Ttl: 40, Datas: []string{"Data"}}, 2)
			p.put(t, entry(m, 1, 1, 70, "lesser"), 20)
			p.holds(t, "P13.1: a lesser rank", entry(small, 1, 2, 60, "Data"))
			q := filled(t, 4, 10, entry(n, 1, 2, 60, "Data"), entry(m, 1, 2, 50, "new"))
			q.holds(t, "P13.1: one key", entry(small, 1, 2, 50, "new"))
			q = filled(t, 4, 10, entry(n, 1, 2, 60, "Data"), entry(m, 2, 1, 50, "new"))
			q.holds(t, "P13.1: two types", entry(small, 1, 2, 60, "Data"), entry(small, 2, 1, 50, "new"))
			q.gives(t, "the second type", n, 2, 20, api.Set{Name: small, Type: 2, Ttl: 30, Datas: []string{"new"}}, 1)
		}
	}
}

// Each pair of bytes in a label is one key or two, by folding alone.
func TestEachPairOfBytes(t *testing.T) {
	for a := range 256 {
		for b := range 256 {
			x, y := nameOf("q"+string([]byte{byte(a)}), "z"), nameOf("q"+string([]byte{byte(b)}), "Z")
			s, _ := store.New(2)
			m := model{most: 2}
			for i, n := range []string{x, y} {
				e := entry(n, 1, 1, 60+i, fmt.Sprint(i))
				if got, want := s.Put(e, 50), m.put(e, 50); got != want {
					t.Fatalf("P13.1: the bytes %d and %d: %d", a, b, got)
				}
			}
			if got := s.All(); !sameEntries(got, m.held) || len(got) == 1 != (folded(x) == folded(y)) {
				t.Fatalf("P13.1: the bytes %d and %d: %s", a, b, tell(got))
			}
		}
	}
}

// In a full store something goes just where neither what is not live nor the one of the key makes room.
func TestFullStores(t *testing.T) {
	a, b, c := entry(nameOf("a"), 1, 3, 80), entry(nameOf("b"), 1, 3, 60), entry(nameOf("c"), 1, 3, 70)
	d := entry(nameOf("d"), 1, 1, 65)
	p := filled(t, 3, 10, a, b, c, d)
	p.holds(t, "P13.1: neither", a, c, d)
	p = filled(t, 3, 10, a, b, c)
	p.put(t, d, 60)
	p.holds(t, "P13.1: one that is not live", a, c, d)
	p = filled(t, 3, 10, a, entry(nameOf("b"), 1, 1, 30), c)
	p.put(t, d, 29)
	p.holds(t, "P13.1: one that is live for a last tick", a, c, d)
	// The least Until is of one that is live: the other one's place is enough.
	p = filled(t, 3, 10, a, entry(nameOf("b"), 1, 3, 51), entry(nameOf("c"), 1, 3, 50))
	p.put(t, d, 50)
	p.holds(t, "P13.1: its place is enough", a, entry(nameOf("b"), 1, 3, 51), d)
	for _, own := range []api.Entry{a, b, c} {
		for _, until := range []int{11, 60, 61, 75, 90} {
			again := own
			again.Until = until
			p = filled(t, 3, 10, a, b, c, again)
			if all := p.all(t); len(all) != 3 {
				t.Errorf("P13.1: one of the key among them: %s", tell(all))
			}
		}
	}
	// What comes may be the one of the least Until: it is held all the same.
	p = filled(t, 3, 10, a, b, c, entry(nameOf("e"), 1, 1, 11))
	p.holds(t, "P13.1: what comes", a, c, entry(nameOf("e"), 1, 1, 11))
	p = filled(t, 1, 10, a, b, c)
	p.holds(t, "P13.1: a store of one", c)
}

// The one of the key is not live: its place is room too, and no second one goes.
func TestOwnOneThatIsNotLive(t *testing.T) {
	a, b := entry(nameOf("a"), 1, 3, 80), entry(nameOf("b"), 1, 3, 40)
	for rank := 1; rank <= 3; rank++ {
		p := filled(t, 2, 10, a, b)
		x := entry(nameOf("b"), 1, rank, 90, "new")
		p.put(t, x, 40)
		p.holds(t, "P13.1: its own place", a, x)
	}
}

// gonePlace gives which of the entries is gone when one more comes, their names and types being all there are.
func gonePlace(t *testing.T, entries []api.Entry, more api.Entry) int {
	t.Helper()
	p := filled(t, len(entries), 10, entries...)
	p.put(t, more, 10)
	all := p.all(t)
	gone := -1
	for i, x := range entries {
		if !slices.ContainsFunc(all, func(y api.Entry) bool { return sameEntry(x, y) }) {
			if gone >= 0 {
				t.Fatalf("P13.1: more than one is gone: %s", tell(all))
			}
			gone = i
		}
	}
	return gone
}

// The least Until goes wherever it stands, whatever its rank and name are.
func TestLeastUntilGoes(t *testing.T) {
	more := entry(nameOf("more"), 7, 1, 20)
	for size := 1; size <= 12; size++ {
		for at := range size {
			var entries []api.Entry
			for i := range size {
				entries = append(entries, entry(nameOf(fmt.Sprint(i*5%13)), 1+i%2, 1+(i+at)%3, 100+i*7%13))
			}
			entries[at].Until = 99
			if gone := gonePlace(t, entries, more); gone != at {
				t.Errorf("P13.1: %d is gone, want %d of %s", gone, at, tell(entries))
			}
		}
	}
}

// Of several of the least Until the first goes, by Compare of names, then by Type.
func TestSeveralOfTheLeastUntil(t *testing.T) {
	names := rising()
	r := rand.New(rand.NewSource(1))
	more := entry(nameOf("more"), 7, 1, 20)
	for i := range names {
		for j := range i {
			late, early := entry(names[i], 1, 1, 50), entry(names[j], 2, 3, 50)
			if gone := gonePlace(t, []api.Entry{late, early}, more); gone != 1 {
				t.Errorf("P13.1: %q and %q: %d is gone", names[i], names[j], gone)
			}
			if gone := gonePlace(t, []api.Entry{early, late}, more); gone != 0 {
				t.Errorf("P13.1: %q and %q: %d is gone", names[j], names[i], gone)
			}
		}
	}
	for _, kinds := range [][]int{{1, 2}, {2, 10}, {9, 10}, {1, 256}, {255, 256}, {256, 257}, {1, 65535}, {65534, 65535}, {32767, 32768}} {
		low, high := entry(nameOf("a"), kinds[0], 3, 50), entry(nameOf("a"), kinds[1], 1, 50)
		if gonePlace(t, []api.Entry{low, high}, more) != 0 || gonePlace(t, []api.Entry{high, low}, more) != 1 {
			t.Errorf("P13.1: the types %v", kinds)
		}
	}
	for range 200 {
		var entries []api.Entry
		for i, n := range names {
			for kind := 1; kind <= 2; kind++ {
				entries = append(entries, entry(n, kind, 1+r.Intn(3), 50+min(i, 1)))
			}
		}
		k := r.Intn(len(entries))
		for i := range entries {
			// Those ahead of the k-th last longer.
			entries[i].Until = 50
			if i < k {
				entries[i].Until = 51
			}
		}
		want := entries[k]
		r.Shuffle(len(entries), func(i, j int) { entries[i], entries[j] = entries[j], entries[i] })
		if gone := gonePlace(t, entries, more); !sameEntry(entries[gone], want) {
			t.Fatalf("P13.1: %s is gone, want %s", tell(entries[gone]), tell(want))
		}
	}
}

// One Until for all: they go one by one in the row of All.
func TestAllOfOneUntil(t *testing.T) {
	names := rising()
	p := newPair(t, len(names))
	for i := range names {
		p.put(t, entry(names[i*7%len(names)], 5, 1, 50), 10)
	}
	for i := range names {
		all := p.all(t)
		if all[0].Set.Name != names[i] {
			t.Fatalf("P13.1: ahead stands %q, want %q", all[0].Set.Name, names[i])
		}
		p.put(t, entry(nameOf(fmt.Sprint(i), "\xff"), 5, 1, 60), 10)
		if p.get(t, names[i], 5, 10); len(p.all(t)) != len(names) {
			t.Fatalf("P13.1: %d are held", len(p.all(t)))
		}
		p.givesNone(t, "what is gone", names[i], 5, 10)
	}
}

// Live up to the tick ahead of Until, and no longer; Get takes nothing away, and what it says does not hang on when it was asked before.
func TestLastTickOfAnEntry(t *testing.T) {
	n := nameOf("a")
	for _, until := range []int{1, 2, 60, 1 << 31, 1 << 32, last, last + 1, last + 86400} {
		p := filled(t, 2, 0, entry(n, 1, 3, until))
		was := p.s.All()
		for _, back := range []int{1, 2, 3, 59, until} {
			p.gives(t, "live", n, 1, until-back, api.Set{Name: n, Type: 1, Ttl: back, Datas: []string{"data"}}, 3)
		}
		for _, on := range []int{0, 1, 2, 86400, 1 << 40, 1 << 50} {
			p.givesNone(t, "not live", n, 1, until+on)
		}
		p.holds(t, "P13.2: Get takes nothing away", was...)
		p.gives(t, "live again at an earlier tick", n, 1, until-1, api.Set{Name: n, Type: 1, Ttl: 1, Datas: []string{"data"}}, 3)
	}
}

func TestKeysThatAreNotHeld(t *testing.T) {
	p := filled(t, 8, 10, entry(nameOf("a"), 1, 3, 60), entry(nameOf("b", "a"), 2, 2, 70), entry(root, 65535, 1, 80))
	was := p.s.All()
	for _, now := range []int{10, 0, -1, 59, 60, 79, 80, last, last + 1, math.MinInt, math.MaxInt} {
		for _, n := range noNames() {
			for _, kind := range []int{1, 2, 65535, 0} {
				p.givesNone(t, "no name", n, kind, now)
			}
		}
		for _, kind := range []int{0, 2, 3, -1, 257, 65535, 65536, 65537, 1<<32 + 1, -1<<32 + 1, math.MinInt, math.MinInt + 1, math.MaxInt} {
			p.givesNone(t, "a type that is not held", nameOf("a"), kind, now)
		}
		for _, n := range []string{nameOf("b"), nameOf("a", "b"), nameOf("aa"), nameOf("a", "a"), nameOf("c", "b", "a"), nameOf("`"), root, nameOf("\xe1")} {
			p.givesNone(t, "a name that is not held", n, 1, now)
		}
	}
	p.holds(t, "P13.2: Get takes nothing away", was...)
}

// Any now: it need be no tick at which something could be put.
func TestAnyNowOfGet(t *testing.T) {
	n := nameOf("a")
	p := filled(t, 2, 10, entry(n, 1, 3, 60))
	for _, now := range []int{-1, -2, -60, -1 << 32, -1 << 40, -1<<40 - 1, -1 << 62} {
		p.gives(t, "ahead of all ticks", n, 1, now, api.Set{Name: n, Type: 1, Ttl: 60 - now, Datas: []string{"data"}}, 3)
	}
	for _, now := range []int{60, 61, last, last + 1, 1 << 62, math.MaxInt} {
		p.givesNone(t, "behind it", n, 1, now)
	}
	// What is left is more than a number can tell here: all else is told as ever.
	if got, rank, e := p.s.Get(n, 1, math.MinInt); got.Name != n || got.Type != 1 || !slices.Equal(got.Datas, []string{"data"}) || rank != 3 || e != api.OK {
		t.Errorf("P13.2: %s, %d, %d", tell(got), rank, e)
	}
	p = filled(t, 2, last, entry(n, 1, 1, math.MaxInt))
	for _, now := range []int{0, 1, last + 1, math.MaxInt - 1} {
		p.gives(t, "until the last number", n, 1, now, api.Set{Name: n, Type: 1, Ttl: math.MaxInt - now, Datas: []string{"data"}}, 1)
	}
	p.givesNone(t, "the last number", n, 1, math.MaxInt)
}

func TestRowOfAll(t *testing.T) {
	newPair(t, 3).holds(t, "P13.2: none")
	filled(t, 3, 10, entry(nameOf("a"), 1, 1, 11)).holds(t, "P13.2: one", entry(nameOf("a"), 1, 1, 11))
	var want []api.Entry
	for i, n := range rising() {
		for j, kind := range []int{1, 2, 10, 256, 65535} {
			want = append(want, entry(n, kind, 1+(i+j)%3, 20+(i*5+j*3)%17))
		}
	}
	r := rand.New(rand.NewSource(2))
	for range 30 {
		row := slices.Clone(want)
		r.Shuffle(len(row), func(i, j int) { row[i], row[j] = row[j], row[i] })
		p := newPair(t, 256)
		for _, x := range row {
			x.Set.Name = []string{x.Set.Name, great(x.Set.Name)}[r.Intn(2)]
			if e := p.s.Put(x, 10); e != api.OK {
				t.Fatalf("P13.1: %d", e)
			}
		}
		if got := p.s.All(); !sameEntries(got, want) {
			t.Fatalf("P13.2: %s, want %s", tell(got), tell(want))
		}
	}
}

// Every row of up to five calls out of puts that differ in little, at ticks that go on and back, into stores of one to three.
func TestEveryShortRowOfPuts(t *testing.T) {
	a, b := nameOf("a"), nameOf("b")
	kinds := []struct {
		x   api.Entry
		now int
	}{
		{entry(a, 1, 1, 4, "1"), 2}, {entry(nameOf("A"), 1, 3, 3, "2"), 2}, {entry(a, 1, 2, 6, "3"), 3}, {entry(a, 2, 2, 4, "4"), 3}, {entry(b, 1, 1, 4, "5"), 1},
		{entry(nameOf("a", "B"), 1, 2, 5, "6"), 4}, {entry(b, 1, 3, 9, "7"), 5}, {entry(b, 1, 3, 5, "8"), 5}, {entry(root, 1, 1, 4, "9"), 0},
	}
	for most := 1; most <= 3; most++ {
		rows := 1
		for size := range 6 {
			for x := range rows {
				s, _ := store.New(most)
				m := model{most: most}
				for range size {
					c := kinds[x%len(kinds)]
					x /= len(kinds)
					if got, want := s.Put(c.x, c.now), m.put(c.x, c.now); got != want {
						t.Fatalf("P13.1: Put(%s, %d) = %d, want %d", tell(c.x), c.now, got, want)
					}
				}
				if got := s.All(); !sameEntries(got, m.held) {
					t.Fatalf("P13.1: a store of %d: %s, want %s", most, tell(got), tell(m.held))
				}
			}
			rows *= len(kinds)
		}
	}
}

// someName gives a name of few labels out of few.
func someName(r *rand.Rand) string {
	labels := []string{"a", "b", "A", "B", "ab", "\x00", "\xff", "z"}
	var out []string
	for range r.Intn(4) {
		out = append(out, labels[r.Intn(len(labels))])
	}
	return nameOf(out...)
}

// someEntry gives an entry that may be put at now, now and then one that may not.
func someEntry(r *rand.Rand, now int, lasts int) api.Entry {
	x := entry(someName(r), 1+r.Intn(3), 1+r.Intn(3), now+1+r.Intn(lasts))
	x.Set.Ttl = r.Intn(100) - 50
	x.Set.Datas = nil
	for range 1 + r.Intn(3) {
		x.Set.Datas = append(x.Set.Datas, fmt.Sprint("data", r.Intn(10)))
	}
	if r.Intn(20) > 0 {
		return x
	}
	switch r.Intn(5) {
	case 0:
		x.Set.Name = noNames()[r.Intn(len(noNames()))]
	case 1:
		x.Set.Type = []int{0, -1, 65536}[r.Intn(3)]
	case 2:
		x.Set.Datas = nil
	case 3:
		x.Rank = []int{0, 4, -1}[r.Intn(3)]
	case 4:
		x.Until = now - r.Intn(2)
	}
	return x
}

func TestSomeCalls(t *testing.T) {
	r := rand.New(rand.NewSource(3))
	put, got := map[api.Errno]int{}, map[api.Errno]int{}
	for _, most := range []int{1, 2, 3, 5, 8, 16, 40, 100, 255, 256} {
		for range 8 {
			p := newPair(t, most)
			now, lasts := r.Intn(100), 1+r.Intn(4*most)
			for range 400 {
				now = max(0, now+r.Intn(4)-r.Intn(2))
				put[p.put(t, someEntry(r, now, lasts), now)]++
				_, _, e := p.get(t, someName(r), 1+r.Intn(3), now+r.Intn(lasts)-r.Intn(3))
				got[e]++
			}
		}
	}
	if put[api.OK] < 20000 || put[api.ErrStoreForm] < 1000 || len(put) != 2 || got[api.OK] < 3000 || got[api.ErrStoreNone] < 3000 || len(got) != 2 {
		t.Errorf("not enough of each kind: %v, %v", put, got)
	}
}

// The same calls give the same answers each time, however a map is gone through.
func TestOneAnswerEachTime(t *testing.T) {
	var want []api.Entry
	for turn := range 50 {
		r := rand.New(rand.NewSource(4))
		s, _ := store.New(20)
		for range 300 {
			s.Put(entry(someName(r), 1+r.Intn(2), 1, 50+r.Intn(2)), 10)
		}
		got := s.All()
		if turn == 0 {
			want = got
		}
		if len(got) != 20 || !sameEntries(got, want) {
			t.Fatalf("R5: %s, and %s", tell(want), tell(got))
		}
	}
}

func TestStoresAreTheirOwn(t *testing.T) {
	one, two := newPair(t, 1), newPair(t, 2)
	a, b := entry(nameOf("a"), 1, 3, 60, "a"), entry(nameOf("b"), 1, 3, 70, "b")
	one.put(t, a, 10)
	two.holds(t, "P13.1: another store")
	two.put(t, b, 10)
	two.put(t, entry(nameOf("a"), 1, 1, 65, "two"), 10)
	one.put(t, b, 10)
	one.holds(t, "P13.1: a store of one", b)
	two.holds(t, "P13.1: a store of two", entry(nameOf("a"), 1, 1, 65, "two"), b)
}

func TestNilStore(t *testing.T) {
	var none *store.Store
	for _, x := range []api.Entry{{}, entry(nameOf("a"), 1, 3, 60), entry("", 0, 0, 0)} {
		for _, now := range []int{10, -1, math.MaxInt} {
			if e := none.Put(x, now); e != api.ErrNil {
				t.Errorf("R3: Put: %d", e)
			}
			got, rank, e := none.Get(x.Set.Name, x.Set.Type, now)
			if !sameSet(got, api.Set{}) || rank != 0 || e != api.ErrNil {
				t.Errorf("R3: Get: %s, %d, %d", tell(got), rank, e)
			}
		}
	}
	if all := none.All(); len(all) != 0 {
		t.Errorf("R3: All: %s", tell(all))
	}
}

// Of a store that New did not make no more is asked than R1 asks.
func TestStoreThatNewDidNotMake(t *testing.T) {
	s := new(store.Store)
	if all := s.All(); len(all) != 0 {
		t.Errorf("R1: %s", tell(all))
	}
	if got, rank, e := s.Get(nameOf("a"), 1, 0); !sameSet(got, api.Set{}) || rank != 0 || e != api.ErrStoreNone {
		t.Errorf("R1: %s, %d, %d", tell(got), rank, e)
	}
	if e := s.Put(api.Entry{}, 0); e != api.ErrStoreForm {
		t.Errorf("R1: %d", e)
	}
	for i := range 5 {
		s.Put(entry(nameOf(fmt.Sprint(i)), 1, 1, 60), 10)
		s.Get(nameOf(fmt.Sprint(i)), 1, 10)
		if all := s.All(); len(all) > 1 {
			t.Errorf("T5: it holds %d", len(all))
		}
	}
}

// What is handed in is as it was, and so is the room behind its list, of which nothing is kept.
func TestArgumentsAreNotChanged(t *testing.T) {
	r := rand.New(rand.NewSource(5))
	p := newPair(t, 6)
	now := 0
	for range 3000 {
		now += r.Intn(2)
		x := someEntry(r, now, 12)
		room := append(slices.Clone(x.Set.Datas), "behind", "", "a")
		x.Set.Datas = room[:len(x.Set.Datas)]
		was, kept := copyOf(x), slices.Clone(room)
		p.put(t, x, now)
		if !sameEntry(x, was) || !slices.Equal(room, kept) {
			t.Fatalf("R4: Put changed %s to %s", tell(was), tell(x))
		}
	}
}

// view gives a string that changes with b.
func view(b []byte) string {
	return unsafe.String(unsafe.SliceData(b), len(b))
}

// Writing over what was put, its list and its texts, changes nothing that is held.
func TestNothingHandedInIsKept(t *testing.T) {
	for _, first := range []string{nameOf("www", "a"), nameOf("WWW", "a")} {
		p := newPair(t, 3)
		owner, data := []byte(first), []byte("data")
		datas := []string{view(data), "more"}
		p.s.Put(api.Entry{Set: api.Set{Name: view(owner), Type: 1, Datas: datas}, Rank: 1, Until: 60}, 10)
		p.s.Get(view(owner), 1, 10)
		copy(owner, nameOf("xyz", "b"))
		copy(data, "DATA")
		datas[1] = "changed"
		datas = append(datas[:0], "over")
		want := api.Entry{Set: api.Set{Name: nameOf("www", "a"), Type: 1, Datas: []string{"data", "more"}}, Rank: 1, Until: 60}
		if got := p.s.All(); !sameEntries(got, []api.Entry{want}) {
			t.Errorf("R4: %s, want %s", tell(got), tell(want))
		}
		if got, _, e := p.s.Get(nameOf("www", "a"), 1, 50); e != api.OK || got.Ttl != 10 || !slices.Equal(got.Datas, want.Set.Datas) || got.Name != want.Set.Name {
			t.Errorf("R4: %s, %d", tell(got), e)
		}
		if _, _, e := p.s.Get(nameOf("xyz", "b"), 1, 50); e != api.ErrStoreNone {
			t.Errorf("R4: %d", e)
		}
	}
}

// scribble writes over a list and the room behind it.
func scribble(datas []string) {
	datas = datas[:cap(datas)]
	for i := range datas {
		datas[i] = "changed"
	}
}

// Writing over what was answered changes neither what is held nor another answer, nor another list of the same one.
func TestListsOfTheirOwn(t *testing.T) {
	r := rand.New(rand.NewSource(6))
	for range 300 {
		p := newPair(t, 12)
		for range 20 {
			p.put(t, someEntry(r, 10, 30), 10)
		}
		want := copiesOf(p.m.held)
		one, two := p.s.All(), p.s.All()
		for i, x := range want {
			set, _, _ := p.s.Get(x.Set.Name, x.Set.Type, 10)
			again, _, _ := p.s.Get(x.Set.Name, x.Set.Type, 10)
			scribble(set.Datas)
			if !slices.Equal(again.Datas, x.Set.Datas) {
				t.Fatalf("R4: two answers of Get: %s", tell(again))
			}
			scribble(one[i].Set.Datas)
			if !sameEntries(one[i+1:], want[i+1:]) {
				t.Fatalf("R4: two lists of All: %s", tell(one))
			}
			one[i] = api.Entry{}
		}
		if !sameEntries(two, want) {
			t.Fatalf("R4: two answers of All: %s, want %s", tell(two), tell(want))
		}
		clear(one[:cap(one)])
		p.all(t)
	}
}

// shares says whether two strings lie in one piece of memory; those of one byte, which the language keeps in one place for all, do not count.
func shares(a, b string) bool {
	if len(a) < 2 || len(b) < 2 {
		return false
	}
	from, to := uintptr(unsafe.Pointer(unsafe.StringData(a))), uintptr(unsafe.Pointer(unsafe.StringData(b)))
	return from < to+uintptr(len(b)) && to < from+uintptr(len(a))
}

// textsOf gives the texts of entries.
func textsOf(all ...api.Entry) []string {
	var out []string
	for _, x := range all {
		out = append(out, x.Set.Name)
		out = append(out, x.Set.Datas...)
	}
	return out
}

// apart holds that no text of one list lies in the memory of one of another list.
func apart(t *testing.T, what string, lists ...[]string) {
	t.Helper()
	for i, one := range lists {
		for j, two := range lists[:i] {
			for _, a := range one {
				for _, b := range two {
					if shares(a, b) {
						t.Errorf("R4: %s: %q of list %d and %q of list %d share memory", what, a, i, b, j)
					}
				}
			}
		}
	}
}

// No text that is answered lies in the memory of what was handed in, nor in another answer's, nor in another entry's.
func TestTextsOfTheirOwn(t *testing.T) {
	small, data := nameOf("small", "letters"), strings.Repeat("data", 10)
	given := []api.Entry{entry(small, 1, 1, 60, data, data[1:]), entry(small, 2, 2, 61, data), entry(nameOf("b"), 2, 3, 62, small, data), entry(nameOf("GREAT"), 1, 3, 63, data)}
	p := filled(t, 9, 10, given...)
	one, two := p.s.All(), p.s.All()
	lists := [][]string{textsOf(given...), textsOf(one...), textsOf(two...)}
	for range 2 {
		var got []string
		asked := strings.Clone(small)
		for kind := 1; kind <= 2; kind++ {
			set, _, _ := p.s.Get(asked, kind, 10)
			got = append(got, textsOf(api.Entry{Set: set})...)
		}
		lists = append(lists, []string{asked}, got)
	}
	apart(t, "answers", lists...)
	for i := range one {
		apart(t, "two entries", textsOf(one[:i]...), textsOf(one[i:]...))
	}
}

// Stores of several goroutines have nothing in common.
func TestSeveralGoroutines(t *testing.T) {
	shared := append(make([]string, 0, 8), "x", "y")
	var all sync.WaitGroup
	for g := range 8 {
		all.Go(func() {
			r := rand.New(rand.NewSource(int64(g)))
			s, _ := store.New(10)
			m := model{most: 10}
			for now := range 1000 {
				x := someEntry(r, now, 30)
				if len(x.Set.Datas) > 0 {
					x.Set.Datas = shared
				}
				if got, want := s.Put(x, now), m.put(x, now); got != want {
					t.Errorf("P13.1: Put(%s, %d) = %d, want %d", tell(x), now, got, want)
					return
				}
				if got := s.All(); !sameEntries(got, m.held) {
					t.Errorf("P13.1: %s, want %s", tell(got), tell(m.held))
					return
				}
			}
		})
	}
	all.Wait()
}

// What costs most: a full store of the longest names that differ at their first label alone, all of one Until, and names far too long.
func TestItEndsSoon(t *testing.T) {
	began := time.Now()
	s, _ := store.New(256)
	ones := strings.Repeat("\x01A", 125) + root
	for i := range 4000 {
		x := entry("\x03"+string([]byte{byte(i >> 16), byte(i >> 8), byte(i)})+ones[2:], 1, 1, 60)
		if e := s.Put(x, 10); e != api.OK {
			t.Fatalf("P13.1: %d", e)
		}
	}
	for range 100 {
		if all := s.All(); len(all) != 256 {
			t.Fatalf("P13.2: %d are held", len(all))
		}
	}
	long := strings.Repeat("\x01a", 1<<20) + root
	for range 1000 {
		if _, _, e := s.Get(long, 1, 10); e != api.ErrStoreNone {
			t.Fatalf("P13.2: %d", e)
		}
		if e := s.Put(entry(long, 1, 1, 60), 10); e != api.ErrStoreForm {
			t.Fatalf("P13.1: %d", e)
		}
	}
	for range 200000 {
		s.Get(ones, 1, 10)
	}
	if took := time.Since(began); took > 20*time.Second {
		t.Errorf("it took %v", took)
	}
}

func FuzzStore(f *testing.F) {
	f.Add(2, nameOf("a"), nameOf("A"), 1, 2, 1, 3, 60, 70, 10, 50, "x")
	f.Add(1, root, nameOf("b", "a"), 65535, 1, 3, 2, 11, 11, 10, 11, "")
	f.Add(256, "\x01a", nameOf("WWW"), 0, 65536, 0, 4, 1<<40+1, 5, 1<<40, -1, "data")
	f.Fuzz(func(t *testing.T, most int, m, n string, kind, other int, rank, more int, until, later int, now, then int, data string) {
		if s, e := store.New(most); (e == api.OK) != (most >= 1 && most <= 256) || (s == nil) != (e != api.OK) {
			t.Fatalf("P13.1: New(%d) = %v, %d", most, s, e)
		}
		p := newPair(t, 1+most&3)
		for _, x := range []api.Entry{
			entry(m, kind, rank, until, data), entry(n, other, more, later, data), entry(m, other, more, until), entry(n, kind, rank, later, data, data),
			entry(m, 1+kind&1, 1+rank&1, now+1+until&7, data), entry(n, 1+other&1, 1+more&1, now+1+later&7), entry(n, 1+kind&1, 2, now+2, m),
		} {
			p.put(t, x, now)
			p.put(t, x, then)
			p.get(t, m, kind, now)
			p.get(t, n, x.Set.Type, then)
			p.get(t, x.Set.Name, x.Set.Type, x.Until-1)
		}
	})
}
