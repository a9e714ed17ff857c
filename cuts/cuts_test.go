package cuts_test

import (
	"bytes"
	"fmt"
	"math"
	"slices"
	"strings"
	"testing"

	"wimple/api"
	"wimple/cuts"
)

const (
	root = "\x00"

	// last is the last tick at which something may be put.
	last = 1 << 40

	// most is the greatest address.
	most = 1<<32 - 1
)

// nameOf gives the name of the labels.
func nameOf(labels ...string) string {
	out := ""
	for _, l := range labels {
		out += string([]byte{byte(len(l))}) + l
	}
	return out + root
}

// hosts gives names of one label each.
func hosts(labels ...string) []string {
	var out []string
	for _, l := range labels {
		out = append(out, nameOf(l))
	}
	return out
}

// telling gives a delegation without glue.
func telling(cut string, ttl int, hosts ...string) api.Delegation {
	return api.Delegation{Cut: cut, Hosts: hosts, Ttl: ttl}
}

// glue gives what a Glue is made of.
func glue(host string, addr int, ticks int) api.Binding {
	return api.Binding{Host: host, Addr: addr, Until: ticks}
}

// with gives the delegation with that glue.
func with(d api.Delegation, bs ...api.Binding) api.Delegation {
	d.Glue = bs
	return d
}

func bound(cut, host string, addr int, from string, until int) api.Binding {
	return api.Binding{Cut: cut, Host: host, Addr: addr, From: from, Until: until}
}

// tell shortens what is told.
func tell(x any) string {
	s := fmt.Sprintf("%+q", fmt.Sprintf("%+v", x))
	if len(s) > 800 {
		return s[:800] + ".."
	}
	return s
}

// mayName is chapter 1's head.
func mayName(n string) bool {
	size := len(n)
	for n != "" && n[0] >= 1 && n[0] <= 63 && len(n) > int(n[0]) {
		n = n[1+n[0]:]
	}
	return n == root && size <= 255
}

// folded is chapter 2's head: no length of a label is as great as a letter.
func folded(n string) string {
	out := []byte(n)
	for i, c := range out {
		if c >= 65 && c <= 90 {
			out[i] = c + 32
		}
	}
	return string(out)
}

// great gives a name with its small letters made great.
func great(n string) string {
	out := []byte(n)
	for i, c := range out {
		if c >= 97 && c <= 122 {
			out[i] = c - 32
		}
	}
	return string(out)
}

// backwards gives the labels of a name, folded, the last one ahead.
func backwards(n string) []string {
	var out []string
	for n = folded(n); n != root; n = n[1+n[0]:] {
		out = append([]string{n[1 : 1+n[0]]}, out...)
	}
	return out
}

// isAhead is P2.3 of two names.
func isAhead(a, b string) bool {
	return slices.CompareFunc(backwards(a), backwards(b), func(x, y string) int { return bytes.Compare([]byte(x), []byte(y)) }) < 0
}

// isAbove is chapter 2's head of two names.
func isAbove(a, b string) bool {
	x, y := backwards(a), backwards(b)
	return len(x) <= len(y) && slices.Equal(x, y[:len(x)])
}

// mayAddr is what P15.1, P15.2 and P15.3 ask of an address.
func mayAddr(addr int) bool {
	return addr >= 0 && addr <= 4294967295
}

// mayPut is what P15.2 asks of a delegation.
func mayPut(d api.Delegation, from string, now int) bool {
	if !mayName(d.Cut) || !mayName(from) || !isAbove(from, d.Cut) || folded(from) == folded(d.Cut) {
		return false
	}
	if len(d.Hosts) == 0 || len(d.Hosts) > 8 || len(d.Glue) > 8 || now < 0 || now > 1099511627776 {
		return false
	}
	seen := map[string]int{}
	for _, h := range d.Hosts {
		seen[folded(h)]++
		if !mayName(h) || seen[folded(h)] > 1 {
			return false
		}
	}
	for _, g := range d.Glue {
		if seen[folded(g.Host)] == 0 || !mayAddr(g.Addr) {
			return false
		}
	}
	return true
}

// lasts gives ticks, 1 at least and 86,400 at most.
func lasts(ticks int) int {
	switch {
	case ticks < 1:
		return 1
	case ticks > 86400:
		return 86400
	}
	return ticks
}

// place is a cut of the model.
type place struct {
	cut   string
	hosts []string
	from  string
	until int
	all   []api.Binding
}

// at gives the bindings that are live at now.
func (x *place) at(now int) []api.Binding {
	var out []api.Binding
	for _, b := range x.all {
		if now < b.Until {
			out = append(out, b)
		}
	}
	return out
}

// model is a second reading of the chapter: the root, and a list of cuts by Compare.
type model struct {
	top   place
	below []place
}

func newModel(hints []api.Hint) *model {
	m := &model{}
	for _, h := range hints {
		host := folded(h.Host)
		m.top.all = append(m.top.all, bound(root, host, h.Addr, root, 0))
		if !slices.Contains(m.top.hosts, host) {
			m.top.hosts = append(m.top.hosts, host)
		}
	}
	return m
}

func (m *model) put(d api.Delegation, from string, now int) api.Errno {
	if !mayPut(d, from, now) {
		return api.ErrCutsForm
	}
	x := place{cut: folded(d.Cut), from: folded(from), until: now + lasts(d.Ttl)}
	for _, h := range d.Hosts {
		x.hosts = append(x.hosts, folded(h))
	}
	for _, g := range d.Glue {
		b := bound(x.cut, folded(g.Host), g.Addr, x.from, now+lasts(g.Until))
		if !slices.ContainsFunc(x.all, func(y api.Binding) bool { return y.Host == b.Host && y.Addr == b.Addr }) {
			x.all = append(x.all, b)
		}
	}
	var left []place
	for _, y := range m.below {
		if now < y.until && y.cut != x.cut {
			left = append(left, y)
		}
	}
	if len(left) == 128 {
		gone := 0
		for i := range left {
			// The list stands by Compare, so that of several the first is met first.
			if left[i].until < left[gone].until {
				gone = i
			}
		}
		left = slices.Delete(left, gone, gone+1)
	}
	at := 0
	for at < len(left) && isAhead(left[at].cut, x.cut) {
		at++
	}
	m.below = slices.Insert(left, at, x)
	return api.OK
}

func (m *model) learn(host string, addr int, until int, now int) {
	if !mayName(host) || !mayAddr(addr) || until <= now {
		return
	}
	for i := range m.below {
		x := &m.below[i]
		if now >= x.until || !slices.Contains(x.hosts, folded(host)) {
			continue
		}
		live := x.at(now)
		if len(live) >= 16 || slices.ContainsFunc(live, func(b api.Binding) bool { return b.Host == folded(host) && b.Addr == addr }) {
			continue
		}
		x.all = append(x.all, bound(x.cut, folded(host), addr, x.from, until))
	}
}

func (m *model) deepest(n string, now int) string {
	out := root
	for _, x := range m.below {
		if mayName(n) && now < x.until && isAbove(x.cut, n) && len(backwards(x.cut)) > len(backwards(out)) {
			out = x.cut
		}
	}
	return out
}

// find gives the cut of that name and its live bindings, if it is live.
func (m *model) find(cut string, now int) ([]string, []api.Binding) {
	if cut == root {
		return m.top.hosts, m.top.all
	}
	for _, x := range m.below {
		if mayName(cut) && x.cut == folded(cut) && now < x.until {
			return x.hosts, x.at(now)
		}
	}
	return nil, nil
}

// live gives the names of the cuts that are live, by Compare.
func (m *model) live(now int) []string {
	var out []string
	for _, x := range m.below {
		if now < x.until {
			out = append(out, x.cut)
		}
	}
	return out
}

// pair is a Cuts and its model; each call is made of both, and what they answer held against each other.
type pair struct {
	c *cuts.Cuts
	m *model
}

func newPair(t *testing.T, hints ...api.Hint) *pair {
	t.Helper()
	c, e := cuts.New(hints)
	if c == nil || e != api.OK {
		t.Fatalf("P15.1: New(%s) = %v, %d", tell(hints), c, e)
	}
	return &pair{c: c, m: newModel(hints)}
}

// plain gives a pair of one hint, whose host is r.
func plain(t *testing.T) *pair {
	t.Helper()
	return newPair(t, api.Hint{Host: nameOf("r"), Addr: 1})
}

func (p *pair) put(t *testing.T, d api.Delegation, from string, now int) api.Errno {
	t.Helper()
	got, want := p.c.Put(d, from, now), p.m.put(d, from, now)
	if got != want {
		t.Fatalf("P15.2: Put(%s, %s, %d) = %d, want %d", tell(d), tell(from), now, got, want)
	}
	return got
}

// holds puts what may be put.
func (p *pair) holds(t *testing.T, d api.Delegation, from string, now int) {
	t.Helper()
	if e := p.put(t, d, from, now); e != api.OK {
		t.Fatalf("P15.2: Put(%s, %s, %d) = %d", tell(d), tell(from), now, e)
	}
	p.look(t, d.Cut, now)
}

// learn answers nothing: what it did is to be seen by all.
func (p *pair) learn(t *testing.T, host string, addr int, until int, now int) {
	t.Helper()
	p.c.Learn(host, addr, until, now)
	p.m.learn(host, addr, until, now)
}

func (p *pair) deepest(t *testing.T, n string, now int) string {
	t.Helper()
	got, want := p.c.Deepest(n, now), p.m.deepest(n, now)
	if got != want {
		t.Fatalf("P15.3: Deepest(%s, %d) = %s, want %s", tell(n), now, tell(got), tell(want))
	}
	return got
}

// look holds all that is answered of a name at a tick.
func (p *pair) look(t *testing.T, n string, now int) ([]string, []api.Binding) {
	t.Helper()
	p.deepest(t, n, now)
	hosts, bs := p.m.find(n, now)
	if got := p.c.Hosts(n, now); !slices.Equal(got, hosts) {
		t.Fatalf("P15.3: Hosts(%s, %d) = %s, want %s", tell(n), now, tell(got), tell(hosts))
	}
	if got := p.c.Bindings(n, now); !slices.Equal(got, bs) {
		t.Fatalf("P15.3: Bindings(%s, %d) = %s, want %s", tell(n), now, tell(got), tell(bs))
	}
	return hosts, bs
}

// all holds what is answered of the root, of each cut of the model, in both cases, and of the names, at each of the ticks.
func (p *pair) all(t *testing.T, names []string, ticks ...int) {
	t.Helper()
	for _, now := range ticks {
		p.look(t, root, now)
		for _, x := range p.m.below {
			p.look(t, x.cut, now)
			p.look(t, great(x.cut), now)
		}
		for _, n := range names {
			p.look(t, n, now)
		}
	}
}

// has holds hosts and bindings of a cut against what is written out.
func (p *pair) has(t *testing.T, what string, cut string, now int, hosts []string, bs ...api.Binding) {
	t.Helper()
	gotHosts, got := p.look(t, cut, now)
	if !slices.Equal(gotHosts, hosts) {
		t.Errorf("%s: Hosts(%s, %d) = %s, want %s", what, tell(cut), now, tell(gotHosts), tell(hosts))
	}
	if !slices.Equal(got, bs) {
		t.Errorf("%s: Bindings(%s, %d) = %s, want %s", what, tell(cut), now, tell(got), tell(bs))
	}
}

// isDeepest holds Deepest against what is written out.
func (p *pair) isDeepest(t *testing.T, what string, n string, now int, want string) {
	t.Helper()
	if got := p.deepest(t, n, now); got != want {
		t.Errorf("P15.3: %s: Deepest(%s, %d) = %s, want %s", what, tell(n), now, tell(got), tell(want))
	}
}

// noNames gives bytes of all kinds that are no name.
func noNames() []string {
	long := strings.Repeat("a", 63)
	return []string{
		"", "a", "com", ".", "\x01", "\x01a", "\x02a\x00", "\x3f\x00", "\x00\x00", "\x00\x01a\x00", "\x01a\x00\x00", "\x01a\x00b", "\xc0\x0c", "\x01a\xc0\x00",
		"\x40" + long + "a\x00", nameOf(long, long, long, long[:62]), strings.Repeat("\x01a", 128) + root, strings.Repeat("\x00", 1<<16),
	}
}

// oddNames gives names at the edges of what one is, folded.
func oddNames() []string {
	long := strings.Repeat("a", 63)
	return []string{root, nameOf("a"), nameOf(long), nameOf(long, long, long, long[:61]), strings.Repeat("\x01a", 127) + root, nameOf("\x00"), nameOf("\xff\xc0.\\")}
}

// rising gives names in the canonical order, which is neither that of their bytes nor that of their lengths.
func rising() []string {
	return []string{
		root, nameOf("\x00"), nameOf("-"), nameOf("0"), nameOf("["), nameOf("`"), nameOf("a"), nameOf("zzz", "a"), nameOf("a", "zzz", "a"), nameOf("\x00", "a\x00"), nameOf("a", "aa"), nameOf("aaa"), nameOf("b"),
		nameOf("a", "b"), nameOf("aa", "b"), nameOf("b", "b"), nameOf("c"), nameOf("example"), nameOf("a", "example"), nameOf("yljkjljk", "a", "example"), nameOf("z", "a", "example"), nameOf("z", "example"),
		nameOf("{"), nameOf("\x7f"), nameOf("\x80"), nameOf("\xff"),
	}
}

// oddTicks gives ticks at all edges.
func oddTicks() []int {
	return []int{math.MinInt, math.MinInt + 1, -last, -1, 0, 1, 86400, last - 1, last, last + 1, last + 86400, math.MaxInt - 1, math.MaxInt}
}

// oddAddrs gives addresses at both sides of the edges, and numbers of which some bits are an address.
func oddAddrs() []int {
	return []int{math.MinInt, -most, -2, -1, 0, 1, 2, 255, 1<<31 - 1, 1 << 31, most - 1, most, most + 1, most + 2, 1<<33 - 1, math.MaxInt}
}

func TestNumbersOfTheDocument(t *testing.T) {
	if api.MaxHints != 8 || api.MaxAddrs != 8 || api.MaxCuts != 128 || api.MaxTtl != 86400 || api.ErrCutsForm != 1500 || api.ErrNil != 1 || api.OK != 0 {
		t.Error("package api is not as it was given")
	}
}

// refused holds that New gives nothing.
func refused(t *testing.T, what string, hints []api.Hint) {
	t.Helper()
	if c, e := cuts.New(hints); c != nil || e != api.ErrCutsForm {
		t.Errorf("P15.1: %s: %v, %d", what, c, e)
	}
}

// manyHints gives n hints that are right.
func manyHints(n int) []api.Hint {
	out := []api.Hint{}
	for i := range n {
		out = append(out, api.Hint{Host: nameOf(fmt.Sprint("Ns", i), "Root"), Addr: i * 7919})
	}
	return out
}

func TestNewAtItsEdges(t *testing.T) {
	refused(t, "nil", nil)
	refused(t, "no hint", []api.Hint{})
	for n := 1; n <= 8; n++ {
		p := newPair(t, manyHints(n)...)
		hs, bs := p.look(t, root, 0)
		if len(hs) != n || len(bs) != n {
			t.Errorf("P15.1: of %d hints: %s, %s", n, tell(hs), tell(bs))
		}
	}
	for _, n := range []int{9, 10, 16, 100, 1 << 16} {
		refused(t, "too many hints", manyHints(n))
	}
	for n := 1; n <= 8; n++ {
		for at := range n {
			for _, no := range noNames() {
				hints := manyHints(n)
				hints[at].Host = no
				refused(t, "no name", hints)
			}
			for _, odd := range oddNames() {
				hints := manyHints(n)
				hints[at].Host = great(odd)
				newPair(t, hints...).look(t, root, 5)
			}
			for _, addr := range oddAddrs() {
				hints := manyHints(n)
				hints[at].Addr = addr
				if addr < 0 || addr > most {
					refused(t, fmt.Sprint("address ", addr), hints)
					continue
				}
				newPair(t, hints...).look(t, root, 5)
			}
		}
	}
	refused(t, "each fault", []api.Hint{{Host: "", Addr: -1}, {Host: nameOf("a"), Addr: most + 1}, {Host: "a", Addr: 1}})
	refused(t, "nothing in it", []api.Hint{{}})
}

func TestOrdinaryHints(t *testing.T) {
	b, a := nameOf("b", "servers"), nameOf("a", "servers")
	p := newPair(t, api.Hint{Host: great(b), Addr: 7}, api.Hint{Host: a, Addr: 0}, api.Hint{Host: b, Addr: most}, api.Hint{Host: a, Addr: 0}, api.Hint{Host: great(a), Addr: 0})
	first, second, third := bound(root, b, 7, root, 0), bound(root, a, 0, root, 0), bound(root, b, most, root, 0)
	for _, now := range oddTicks() {
		p.has(t, "P15.1", root, now, []string{b, a}, first, second, third, second, second)
		p.isDeepest(t, "no cut below the root", nameOf("www", "servers"), now, root)
		p.isDeepest(t, "the root itself", root, now, root)
	}
}

// Every row of up to four hints out of some that are near each other.
func TestAllRowsOfHints(t *testing.T) {
	some := []api.Hint{{Host: nameOf("a"), Addr: 1}, {Host: nameOf("A"), Addr: 1}, {Host: nameOf("a"), Addr: 2}, {Host: nameOf("b"), Addr: 1}, {Host: root, Addr: 0}, {Host: nameOf("b", "a"), Addr: most}}
	var rows func(hints []api.Hint)
	rows = func(hints []api.Hint) {
		if len(hints) > 0 {
			newPair(t, hints...).look(t, root, 9)
		}
		if len(hints) == 4 {
			return
		}
		for _, h := range some {
			rows(append(slices.Clone(hints), h))
		}
	}
	rows(nil)
}

// The root never ends, whatever comes and goes: it is not counted, not learned of, and no delegation takes its place.
func TestTheRootStays(t *testing.T) {
	p := newPair(t, api.Hint{Host: nameOf("r"), Addr: 1}, api.Hint{Host: nameOf("s"), Addr: 2})
	want := []api.Binding{bound(root, nameOf("r"), 1, root, 0), bound(root, nameOf("s"), 2, root, 0)}
	stays := func(what string) {
		t.Helper()
		for _, now := range oddTicks() {
			p.has(t, what, root, now, hosts("r", "s"), want...)
			p.isDeepest(t, what, root, now, root)
		}
	}
	stays("a new one")
	for i := range 300 {
		p.holds(t, telling(nameOf(fmt.Sprint("c", i)), 400-i, nameOf("r"), nameOf("h")), root, i/10)
	}
	stays("behind many cuts")
	for i := range 40 {
		p.learn(t, nameOf("r"), 50+i, 1000, 30)
		p.learn(t, nameOf("S"), 50+i, 1000, 30)
		p.learn(t, root, 50+i, 1000, 30)
	}
	stays("behind what was learned")
	for _, from := range []string{root, nameOf("a"), "", nameOf("r")} {
		if e := p.put(t, telling(root, 9, nameOf("h")), from, 30); e != api.ErrCutsForm {
			t.Errorf("P15.2: the root from %s: %d", tell(from), e)
		}
	}
	stays("behind what was refused")
	p.holds(t, telling(nameOf("late"), 9, nameOf("h")), root, last)
	stays("at the end")
}

func TestOrdinaryDelegations(t *testing.T) {
	p := plain(t)
	com, example := nameOf("com"), nameOf("example", "com")
	one, two := nameOf("ns1", "com"), nameOf("ns2", "net")
	d := with(telling(great(com), 100, two, great(one)), glue(one, 11, 30), glue(great(two), 12, 200))
	p.holds(t, d, root, 1000)
	first, second := bound(com, one, 11, root, 1030), bound(com, two, 12, root, 1200)
	p.has(t, "P15.2", com, 1000, []string{two, one}, first, second)
	p.has(t, "P15.2", great(com), 1029, []string{two, one}, first, second)
	p.has(t, "P15.2", com, 1030, []string{two, one}, second)
	p.has(t, "P15.2", com, 1099, []string{two, one}, second)
	p.has(t, "P15.2", com, 1100, nil)
	p.has(t, "P15.2", example, 1000, nil)
	p.isDeepest(t, "below", nameOf("www", "example", "com"), 1099, com)
	p.isDeepest(t, "too late", nameOf("www", "example", "com"), 1100, root)

	p.holds(t, telling(example, 50, one), great(com), 1010)
	p.has(t, "P15.2", example, 1010, []string{one})
	p.isDeepest(t, "below two", nameOf("WWW", "Example", "COM"), 1059, example)
	p.isDeepest(t, "the lower one no longer", nameOf("WWW", "Example", "COM"), 1060, com)
	p.isDeepest(t, "aside of the lower one", nameOf("other", "com"), 1010, com)

	p.learn(t, great(one), 13, 1025, 1020)
	p.learn(t, one, 11, 1300, 1020)
	learned := bound(com, one, 13, root, 1025)
	p.has(t, "P15.3", com, 1020, []string{two, one}, first, second, learned)
	p.has(t, "P15.3", example, 1020, []string{one}, bound(example, one, 13, com, 1025), bound(example, one, 11, com, 1300))
	p.has(t, "P15.3", com, 1025, []string{two, one}, first, second)
}

// faults gives what makes a right call at tick 50, whose cut is b.a, told from a, a wrong one.
func faults() map[string]func(d *api.Delegation, from *string, now *int) {
	type call = func(d *api.Delegation, from *string, now *int)
	return map[string]call{
		"no cut":        func(d *api.Delegation, from *string, now *int) { d.Cut = "" },
		"a cut cut off": func(d *api.Delegation, from *string, now *int) { d.Cut = "\x01b\x02a\x00" },
		"no from":       func(d *api.Delegation, from *string, now *int) { *from = "a" },
		"from itself":   func(d *api.Delegation, from *string, now *int) { *from = nameOf("B", "a") },
		"from beneath":  func(d *api.Delegation, from *string, now *int) { *from = nameOf("c", "b", "a") },
		"from aside":    func(d *api.Delegation, from *string, now *int) { *from = nameOf("b") },
		"no hosts":      func(d *api.Delegation, from *string, now *int) { d.Hosts = nil },
		"too many hosts": func(d *api.Delegation, from *string, now *int) {
			d.Hosts = append(d.Hosts, hosts("1", "2", "3", "4", "5", "6", "7")...)
		},
		"no host":          func(d *api.Delegation, from *string, now *int) { d.Hosts = append(d.Hosts, "\x01h") },
		"a host twice":     func(d *api.Delegation, from *string, now *int) { d.Hosts = append(d.Hosts, nameOf("H")) },
		"too much glue":    func(d *api.Delegation, from *string, now *int) { d.Glue = slices.Repeat(d.Glue, 9) },
		"glue of no host":  func(d *api.Delegation, from *string, now *int) { d.Glue = append(d.Glue, glue(nameOf("g"), 1, 1)) },
		"glue of no name":  func(d *api.Delegation, from *string, now *int) { d.Glue = append(d.Glue, glue("", 1, 1)) },
		"a small address":  func(d *api.Delegation, from *string, now *int) { d.Glue = append(d.Glue, glue(nameOf("h"), -1, 1)) },
		"a great address":  func(d *api.Delegation, from *string, now *int) { d.Glue = append(d.Glue, glue(nameOf("h"), most+1, 1)) },
		"before all ticks": func(d *api.Delegation, from *string, now *int) { *now = -1 },
		"behind all ticks": func(d *api.Delegation, from *string, now *int) { *now = last + 1 },
	}
}

// right gives a call that faults spoil.
func right(cut string) (api.Delegation, string, int) {
	return with(telling(cut, 40, hosts("h", "k")...), glue(nameOf("h"), 9, 9)), nameOf("A"), 50
}

// worn gives one with MaxCuts cuts, of which some are not live at tick 50: b.a, c.a, some with bindings, and others.
func worn(t *testing.T) *pair {
	t.Helper()
	p := plain(t)
	p.holds(t, with(telling(nameOf("b", "a"), 60, hosts("h", "old")...), glue(nameOf("h"), 3, 60), glue(nameOf("old"), 4, 45)), root, 10)
	p.holds(t, with(telling(nameOf("c", "a"), 40, hosts("h")...), glue(nameOf("h"), 3, 60)), nameOf("a"), 10)
	p.learn(t, nameOf("h"), 5, 70, 20)
	p.learn(t, nameOf("h"), 6, 40, 20)
	for i := range 126 {
		p.holds(t, telling(nameOf(fmt.Sprint(i)), 41+i, hosts("h")...), root, 9)
	}
	return p
}

// Each fault alone, and each two and three of them together: the call is refused, nothing goes and nothing comes.
func TestWrongDelegations(t *testing.T) {
	d, from, now := right(nameOf("b", "a"))
	if e := worn(t).put(t, d, from, now); e != api.OK {
		t.Fatalf("P15.2: without a fault: %d", e)
	}
	all := faults()
	p := worn(t)
	was := p.m.live(10)
	if len(was) != 128 || len(p.m.live(50)) != 126 {
		t.Fatalf("%d cuts, %d live", len(was), len(p.m.live(50)))
	}
	for one, spoil := range all {
		for two, more := range all {
			for three, another := range all {
				for _, cut := range []string{nameOf("b", "a"), nameOf("B", "A"), nameOf("new", "a")} {
					d, from, now := right(cut)
					spoil(&d, &from, &now)
					more(&d, &from, &now)
					another(&d, &from, &now)
					// One fault may mend another one.
					if mayPut(d, from, now) {
						continue
					}
					if e := p.c.Put(d, from, now); e != api.ErrCutsForm {
						t.Fatalf("P15.2: %s, %s, %s: %d", one, two, three, e)
					}
				}
			}
		}
		p.all(t, rising(), 10, 50)
	}
	for _, nothing := range []api.Delegation{{}, {Cut: root}, {Cut: nameOf("b", "a")}, {Ttl: 9}} {
		for _, from := range []string{"", root} {
			if e := p.c.Put(nothing, from, 50); e != api.ErrCutsForm {
				t.Errorf("P15.2: %s: %d", tell(nothing), e)
			}
		}
	}
	p.all(t, rising(), 9, 10, 39, 40, 44, 45, 49, 50, 69, 70, 177)
}

func TestNames(t *testing.T) {
	for _, no := range noNames() {
		p := plain(t)
		p.holds(t, telling(nameOf("b", "a"), 9, hosts("h")...), root, 10)
		for at := range 3 {
			many := hosts("h", "i", "j")
			many[at] = no
			if e := p.put(t, telling(nameOf("b", "a"), 9, many...), root, 10); e != api.ErrCutsForm {
				t.Errorf("P15.2: host %s: %d", tell(no), e)
			}
		}
		for _, from := range []string{no, root, nameOf("a")} {
			if e := p.put(t, telling(no, 9, nameOf("h")), from, 10); e != api.ErrCutsForm {
				t.Errorf("P15.2: cut %s: %d", tell(no), e)
			}
		}
		if e := p.put(t, telling(nameOf("b", "a"), 9, nameOf("k")), no, 10); e != api.ErrCutsForm {
			t.Errorf("P15.2: from %s: %d", tell(no), e)
		}
		p.learn(t, no, 5, 99, 10)
		p.has(t, "P15.3: learned of no name", nameOf("b", "a"), 10, hosts("h"))
		p.has(t, "P15.3: no name", no, 10, nil)
		p.isDeepest(t, "no name", no, 10, root)
	}
	for _, odd := range oddNames() {
		p := plain(t)
		d := with(telling(nameOf("b", "a"), 9, great(odd)), glue(odd, 5, 9))
		p.holds(t, d, root, 10)
		p.learn(t, great(odd), 6, 99, 10)
		p.has(t, "P15.2: odd hosts", nameOf("b", "a"), 10, []string{odd}, bound(nameOf("b", "a"), odd, 5, root, 19), bound(nameOf("b", "a"), odd, 6, root, 99))
		if odd == root {
			continue
		}
		p.holds(t, with(telling(great(odd), 9, nameOf("h")), glue(nameOf("h"), 7, 9)), root, 10)
		p.has(t, "P15.2: odd cuts", odd, 18, hosts("h"), bound(odd, nameOf("h"), 7, root, 19))
		p.isDeepest(t, "odd cuts", great(odd), 18, odd)
	}
}

// Each two names, in both cases: from must be above the cut, and not the same.
func TestFromIsAbove(t *testing.T) {
	names := append(rising(), nameOf("c", "b", "a"), nameOf("b", "a"), nameOf("ba"), nameOf("c", "ba"))
	count := map[api.Errno]int{}
	for _, cut := range names {
		for _, from := range names {
			for _, x := range [][2]string{{cut, from}, {great(cut), from}, {cut, great(from)}} {
				p := plain(t)
				e := p.put(t, with(telling(x[0], 9, nameOf("h")), glue(nameOf("h"), 1, 5)), x[1], 10)
				count[e]++
				if want := cut != from && isAbove(from, cut); (e == api.OK) != want {
					t.Errorf("P15.2: %s from %s: %d", tell(x[0]), tell(x[1]), e)
				}
				if e != api.OK {
					p.has(t, "P15.2", root, 10, hosts("r"), bound(root, nameOf("r"), 1, root, 0))
					continue
				}
				p.has(t, "P15.2", cut, 10, hosts("h"), bound(cut, nameOf("h"), 1, from, 15))
			}
		}
	}
	if len(count) != 2 || count[api.OK] < 100 || count[api.ErrCutsForm] < 1000 {
		t.Errorf("not enough of each kind: %v", count)
	}
}

func TestHowManyHosts(t *testing.T) {
	for n := range 20 {
		var many []string
		for i := range n {
			many = append(many, nameOf(fmt.Sprint("Z", 50-i)))
		}
		p := plain(t)
		e := p.put(t, telling(nameOf("a"), 9, many...), root, 10)
		if (e == api.OK) != (n >= 1 && n <= 8) {
			t.Errorf("P15.2: %d hosts: %d", n, e)
		}
		p.look(t, nameOf("a"), 10)
	}
	for n := 2; n <= 8; n++ {
		for at := 1; at < n; at++ {
			for as := range at {
				many := hosts("a", "b", "c", "d", "e", "f", "g", "h")[:n]
				for _, again := range []string{many[as], great(many[as])} {
					many[at] = again
					if e := plain(t).put(t, telling(nameOf("z"), 9, many...), root, 10); e != api.ErrCutsForm {
						t.Errorf("P15.2: %s: %d", tell(many), e)
					}
				}
			}
		}
	}
	if e := plain(t).put(t, telling(nameOf("z"), 9, make([]string, 1<<20)...), root, 10); e != api.ErrCutsForm {
		t.Errorf("P15.2: far too many hosts: %d", e)
	}
}

func TestHowMuchGlue(t *testing.T) {
	a, h, k := nameOf("a"), nameOf("h"), nameOf("k")
	for n := range 20 {
		var same, other []api.Binding
		for i := range n {
			same = append(same, glue(h, 5, 9))
			other = append(other, glue(k, 90-i, 9))
		}
		for _, bs := range [][]api.Binding{same, other} {
			p := plain(t)
			if e := p.put(t, with(telling(a, 9, h, k), bs...), root, 10); (e == api.OK) != (n <= 8) {
				t.Errorf("P15.2: %d Glue: %d", n, e)
			}
			p.look(t, a, 10)
		}
	}
	if e := plain(t).put(t, with(telling(a, 9, h), make([]api.Binding, 1<<20)...), root, 10); e != api.ErrCutsForm {
		t.Errorf("P15.2: far too much glue: %d", e)
	}
	strangers := append(noNames(), root, a, nameOf("hh"), nameOf("h", "h"), nameOf("h", "k"), nameOf("k", "h"), nameOf("r"))
	for n := 1; n <= 8; n++ {
		for at := range n {
			bs := slices.Repeat([]api.Binding{glue(h, 5, 9)}, n)
			for _, no := range strangers {
				bs[at].Host = no
				if e := plain(t).put(t, with(telling(a, 9, h, k), bs...), root, 10); e != api.ErrCutsForm {
					t.Errorf("P15.2: glue of %s: %d", tell(no), e)
				}
			}
			bs[at].Host = nameOf("K")
			for _, addr := range oddAddrs() {
				bs[at].Addr = addr
				p := plain(t)
				if e := p.put(t, with(telling(a, 9, h, k), bs...), root, 10); (e == api.OK) != (addr >= 0 && addr <= most) {
					t.Errorf("P15.2: address %d: %d", addr, e)
				}
				p.look(t, a, 10)
			}
		}
	}
}

func TestTicksOfPut(t *testing.T) {
	a, h := nameOf("a"), nameOf("h")
	for _, now := range oddTicks() {
		p := plain(t)
		if e := p.put(t, with(telling(a, 9, h), glue(h, 5, 8)), root, now); (e == api.OK) != (now >= 0 && now <= last) {
			t.Errorf("P15.2: at %d: %d", now, e)
		}
		p.all(t, []string{a}, now, now+7, now+8, now+9)
	}
}

// A cut and its glue last at least a tick and at most MaxTtl, each by itself.
func TestHowLongTheyLast(t *testing.T) {
	a, h := nameOf("a"), nameOf("h")
	ticks := map[int]int{math.MinInt: 1, -86400: 1, -1: 1, 0: 1, 1: 1, 2: 2, 3: 3, 3600: 3600, 86399: 86399, 86400: 86400, 86401: 86400, 1 << 32: 86400, math.MaxInt: 86400}
	for said, ttl := range ticks {
		for told, lasts := range ticks {
			for _, now := range []int{0, 10, last} {
				p := plain(t)
				p.holds(t, with(telling(a, said, h), glue(h, 5, told)), root, now)
				b := bound(a, h, 5, root, now+lasts)
				for _, then := range []int{now, now + lasts - 1, now + lasts, now + ttl - 1, now + ttl} {
					var want []api.Binding
					if then < now+lasts {
						want = append(want, b)
					}
					if then < now+ttl {
						p.has(t, "P15.2", a, then, hosts("h"), want...)
						p.isDeepest(t, "live", a, then, a)
						continue
					}
					p.has(t, "P15.2", a, then, nil)
					p.isDeepest(t, "not live", a, then, root)
				}
			}
		}
	}
}

// Of two Glue of one Host and Addr the first counts, whatever its ticks and its case are.
func TestGlueThatIsToldTwice(t *testing.T) {
	a, h, k := nameOf("a"), nameOf("h"), nameOf("k")
	p := plain(t)
	p.holds(t, with(telling(a, 90, k, h), glue(great(h), 5, 3), glue(h, 5, 99), glue(k, 5, 20), glue(h, 6, 1), glue(h, 5, -1), glue(great(k), 5, 30), glue(k, 6, 4)), root, 100)
	p.has(t, "P15.2", a, 100, hosts("k", "h"), bound(a, h, 5, root, 103), bound(a, k, 5, root, 120), bound(a, h, 6, root, 101), bound(a, k, 6, root, 104))
	p.has(t, "P15.2", a, 103, hosts("k", "h"), bound(a, k, 5, root, 120), bound(a, k, 6, root, 104))
	p.has(t, "P15.2", a, 120, hosts("k", "h"))
}

// Every row of up to five Glue out of some that are near each other.
func TestAllRowsOfGlue(t *testing.T) {
	a, h, k := nameOf("a"), nameOf("h"), nameOf("k")
	some := []api.Binding{glue(h, 1, 5), glue(great(h), 1, 3), glue(h, 2, 4), glue(k, 1, 5), glue(great(k), 2, 0), bound("x", h, 3, "y", 7)}
	var rows func(bs []api.Binding)
	rows = func(bs []api.Binding) {
		p := plain(t)
		p.holds(t, with(telling(a, 6, k, h), bs...), root, 10)
		for now := 10; now < 18; now++ {
			p.look(t, a, now)
		}
		if len(bs) == 5 {
			return
		}
		for _, b := range some {
			rows(append(slices.Clone(bs), b))
		}
	}
	rows(nil)
}

func TestCutAndFromOfGlueDoNotCount(t *testing.T) {
	a, h := nameOf("a"), nameOf("h")
	for _, cut := range append(noNames(), root, a, nameOf("b"), h) {
		for _, from := range append(noNames(), root, a, nameOf("b"), h) {
			p := plain(t)
			p.holds(t, with(telling(a, 6, h), bound(cut, h, 5, from, 4)), root, 10)
			p.has(t, "P15.2", a, 10, hosts("h"), bound(a, h, 5, root, 14))
		}
	}
}

// A cut that is told again is a new one: nothing of the old one is left, be it live or not.
func TestCutsThatAreToldAgain(t *testing.T) {
	a, cut := nameOf("a"), nameOf("b", "a")
	for _, now := range []int{10, 11, 29, 30, 31, 200} {
		for _, again := range []string{cut, great(cut)} {
			p := plain(t)
			p.holds(t, with(telling(cut, 20, hosts("h", "k")...), glue(nameOf("h"), 1, 500), glue(nameOf("k"), 2, 500)), root, 10)
			p.learn(t, nameOf("h"), 3, 500, 10)
			p.holds(t, with(telling(again, 5, hosts("k", "new")...), glue(nameOf("new"), 4, 2)), a, now)
			p.has(t, "P15.2: told again", cut, now, hosts("k", "new"), bound(cut, nameOf("new"), 4, a, now+2))
			p.learn(t, nameOf("h"), 5, 900, now)
			p.learn(t, nameOf("k"), 2, 900, now)
			p.has(t, "P15.3: told again", cut, now+4, hosts("k", "new"), bound(cut, nameOf("k"), 2, a, 900))
			p.has(t, "P15.2: told again", cut, now+5, nil)
			p.all(t, []string{a, cut}, 0, 9, 10, 29, 30, now, now+1, now+2, now+4, now+5)
			// The shorter life of the new one counts, not the longer one of the old.
			p.holds(t, telling(cut, 1, nameOf("h")), root, now)
			p.has(t, "P15.2: told once more", cut, now, hosts("h"))
			p.has(t, "P15.2: told once more", cut, now+1, nil)
		}
	}
}
