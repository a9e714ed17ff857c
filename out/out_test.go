package out_test

import (
	"fmt"
	"math"
	"slices"
	"strings"
	"testing"

	"wimple/api"
	"wimple/out"
)

const root = "\x00"

// nameOf gives the name of the labels.
func nameOf(labels ...string) string {
	n := ""
	for _, l := range labels {
		n += string([]byte{byte(len(l))}) + l
	}
	return n + root
}

// mayName is chapter 1's head.
func mayName(n string) bool {
	size := len(n)
	for n != "" && n[0] >= 1 && n[0] <= 63 && len(n) > int(n[0]) {
		n = n[1+n[0]:]
	}
	return n == root && size <= 255
}

// folded is chapter 2's head: no length of a label is as great as a letter.
func folded(n string) string {
	b := []byte(n)
	for i, c := range b {
		if c >= 65 && c <= 90 {
			b[i] = c + 32
		}
	}
	return string(b)
}

// great gives a name with its small letters made great.
func great(n string) string {
	b := []byte(n)
	for i, c := range b {
		if c >= 97 && c <= 122 {
			b[i] = c - 32
		}
	}
	return string(b)
}

// tell shortens what is told.
func tell(x any) string {
	s := fmt.Sprintf("%+q", fmt.Sprintf("%+v", x))
	if len(s) > 800 {
		return s[:800] + ".."
	}
	return s
}

// asked gives what was asked of an address, with all fields told.
func asked(addr, id int, n string, kind int, until int) api.Asked {
	return api.Asked{Job: addr + id, Id: id, Addr: addr, Cut: nameOf("cut"), Target: nameOf("Target", "cut"), Step: api.Step{Name: n, Type: kind}, Until: until}
}

// numbered gives what was asked by the job number k, each as ordinary as the others.
func numbered(k int) api.Asked {
	return api.Asked{Job: k, Id: k * 4099 % 65536, Addr: 7 + k%3, Cut: root, Target: nameOf("w", fmt.Sprint(k)), Step: api.Step{Name: nameOf(fmt.Sprint(k)), Type: 1 + k%2}, Until: 100 + k*7%20}
}

func question(n string, kind, class int) api.Question {
	return api.Question{Name: n, Type: kind, Class: class}
}

// asks gives the question that a reply to a must have.
func asks(a api.Asked) api.Question {
	return question(a.Step.Name, a.Step.Type, 1)
}

// model is a second reading of the chapter: a list, in its row.
type model struct {
	most int
	held []api.Asked
}

func (m *model) add(a api.Asked) api.Errno {
	switch {
	case a.Id < 0, a.Id >= 65536, a.Addr < 0, a.Addr >= 4294967296, !mayName(a.Step.Name), a.Step.Type < 1, a.Step.Type > 65535:
		return 1900
	case len(m.held) == m.most:
		return 1901
	}
	m.held = append(m.held, a)
	return 0
}

func (m *model) take(addr, id int, q api.Question) (api.Asked, api.Errno) {
	for i, a := range m.held {
		if a.Addr == addr && a.Id == id && mayName(q.Name) && folded(a.Step.Name) == folded(q.Name) && a.Step.Type == q.Type && q.Class == 1 {
			m.held = append(slices.Clone(m.held[:i]), m.held[i+1:]...)
			return a, 0
		}
	}
	return api.Asked{}, 1902
}

func (m *model) due(now int) []api.Asked {
	var gone, rest []api.Asked
	for _, a := range m.held {
		if a.Until > now {
			rest = append(rest, a)
		} else {
			gone = append(gone, a)
		}
	}
	m.held = rest
	return gone
}

// pair is a Table and its model; each call is made of both, and what they answer held against each other.
type pair struct {
	x *out.Table
	m model
}

func newPair(t *testing.T, most int) *pair {
	t.Helper()
	x, e := out.New(most)
	if x == nil || e != api.OK {
		t.Fatalf("P19.1: New(%d): is there one: %t, %d", most, x != nil, e)
	}
	p := &pair{x: x, m: model{most: most}}
	p.all(t)
	return p
}

// filled gives a pair to which all were added.
func filled(t *testing.T, most int, all ...api.Asked) *pair {
	t.Helper()
	p := newPair(t, most)
	for _, a := range all {
		p.adds(t, a)
	}
	return p
}

func (p *pair) add(t *testing.T, a api.Asked) api.Errno {
	t.Helper()
	got, want := p.x.Add(a), p.m.add(a)
	if got != want {
		t.Fatalf("P19.1: Add(%s) = %d, want %d", tell(a), got, want)
	}
	p.all(t)
	return got
}

func (p *pair) take(t *testing.T, addr, id int, q api.Question) (api.Asked, api.Errno) {
	t.Helper()
	was := p.m.held
	want, wrong := p.m.take(addr, id, q)
	if got, e := p.x.Take(addr, id, q); got != want || e != wrong {
		t.Fatalf("P19.2: Take(%d, %d, %s) of %s = %s, %d, want %s, %d", addr, id, tell(q), tell(was), tell(got), e, tell(want), wrong)
	}
	p.all(t)
	return want, wrong
}

func (p *pair) due(t *testing.T, now int) []api.Asked {
	t.Helper()
	was := p.m.held
	want := p.m.due(now)
	if got := p.x.Due(now); !slices.Equal(got, want) {
		t.Fatalf("P19.2: Due(%d) of %s = %s, want %s", now, tell(was), tell(got), tell(want))
	}
	p.all(t)
	return want
}

// all asks twice, for asking takes nothing.
func (p *pair) all(t *testing.T) {
	t.Helper()
	for range 2 {
		if got := p.x.All(); !slices.Equal(got, p.m.held) {
			t.Fatalf("P19.2: All() = %s, want %s", tell(got), tell(p.m.held))
		}
	}
}

// holds holds All against what is written out.
func (p *pair) holds(t *testing.T, what string, want ...api.Asked) {
	t.Helper()
	p.all(t)
	if !slices.Equal(p.m.held, want) {
		t.Fatalf("%s: %s, want %s", what, tell(p.m.held), tell(want))
	}
}

func (p *pair) adds(t *testing.T, a api.Asked) {
	t.Helper()
	if e := p.add(t, a); e != api.OK {
		t.Fatalf("P19.1: Add(%s) = %d", tell(a), e)
	}
}

// refuses holds that a is not added, and that all is as it was.
func (p *pair) refuses(t *testing.T, what string, a api.Asked, want api.Errno) {
	t.Helper()
	was := p.x.All()
	if e := p.add(t, a); e != want {
		t.Fatalf("P19.1: %s: Add(%s) = %d, want %d", what, tell(a), e, want)
	}
	p.holds(t, what, was...)
}

// takes holds Take against what is written out.
func (p *pair) takes(t *testing.T, what string, addr, id int, q api.Question, want api.Asked) {
	t.Helper()
	if got, e := p.take(t, addr, id, q); got != want || e != api.OK {
		t.Fatalf("P19.2: %s: Take(%d, %d, %s) = %s, %d", what, addr, id, tell(q), tell(got), e)
	}
}

// takesNone holds that nothing is taken, however often it is asked for, and that all is as it was.
func (p *pair) takesNone(t *testing.T, what string, addr, id int, q api.Question) {
	t.Helper()
	was := p.x.All()
	for range 2 {
		if got, e := p.take(t, addr, id, q); got != (api.Asked{}) || e != api.ErrOutNone {
			t.Fatalf("P19.2: %s: Take(%d, %d, %s) = %s, %d", what, addr, id, tell(q), tell(got), e)
		}
	}
	p.holds(t, what, was...)
}

// isDue holds Due against what is written out; asked again it has nothing more.
func (p *pair) isDue(t *testing.T, what string, now int, want ...api.Asked) {
	t.Helper()
	if got := p.due(t, now); !slices.Equal(got, want) {
		t.Fatalf("P19.2: %s: Due(%d) = %s, want %s", what, now, tell(got), tell(want))
	}
	if more := p.due(t, now); len(more) != 0 {
		t.Fatalf("P19.2: %s: Due(%d) once more: %s", what, now, tell(more))
	}
}

// noNames gives bytes of all kinds that are no name.
func noNames() []string {
	long := strings.Repeat("a", 63)
	return []string{
		"", "a", "com", ".", "\x01", "\x01a", "\x02a\x00", "\x3f\x00", "\x00\x00", "\x00\x01a\x00", "\x01a\x00\x00", "\x01a\x00b", "\xc0\x0c", "\x01a\xc0\x00",
		"\x40" + long + "a\x00", nameOf(long, long, long, long[:62]), strings.Repeat("\x01a", 128) + root, strings.Repeat("\x00", 1<<16),
	}
}

// oddNames gives names at the edges of what one is, and such as differ in little.
func oddNames() []string {
	long := strings.Repeat("a", 63)
	return []string{
		root, nameOf("a"), nameOf("aa"), nameOf("a", "a"), nameOf("b"), nameOf(long), nameOf(long, long, long, long[:61]), strings.Repeat("\x01a", 127) + root,
		nameOf("\x00"), nameOf("\xff\xc0.\\"), nameOf("["), nameOf("{"), nameOf("@"), nameOf("`"), nameOf("\xc1"), nameOf("\xe1"), nameOf("z"), nameOf("\x01a"),
	}
}

func TestNumbersOfTheDocument(t *testing.T) {
	if api.MaxPending != 16 || api.ClassIn != 1 || api.ErrOutForm != 1900 || api.ErrOutFull != 1901 || api.ErrOutNone != 1902 || api.ErrNil != 1 || api.OK != 0 {
		t.Error("package api is not as it was given")
	}
}

func TestNewAtItsEdges(t *testing.T) {
	for _, most := range []int{0, -1, -2, -15, -16, 17, 18, 32, 64, 255, 256, 257, 65537, 1<<32 + 1, -1<<32 + 1, math.MinInt, math.MinInt + 1, math.MaxInt} {
		if x, e := out.New(most); x != nil || e != api.ErrOutForm {
			t.Errorf("P19.1: New(%d): is there one: %t, %d", most, x != nil, e)
		}
	}
	for most := 1; most <= 16; most++ {
		p := newPair(t, most)
		p.holds(t, "a new one")
		p.takesNone(t, "a new one", 0, 0, question(root, 1, 1))
		p.isDue(t, "a new one", math.MaxInt)
	}
}

func TestOrdinaryTable(t *testing.T) {
	www, mail := nameOf("www", "example"), nameOf("mail", "example")
	first := api.Asked{Job: 1, Id: 4711, Addr: 0xc0000201, Cut: root, Target: www, Step: api.Step{Name: nameOf("example"), Type: 1}, Until: 103}
	second := api.Asked{Job: 2, Id: 4464, Addr: 0xc0000202, Cut: nameOf("example"), Target: mail, Step: api.Step{Name: mail, Type: 15}, Until: 103}
	third := api.Asked{Job: 1, Id: 65535, Addr: 0xc0000202, Cut: nameOf("example"), Target: www, Step: api.Step{Name: www, Type: 28}, Until: 105}
	p := newPair(t, 3)
	for i, a := range []api.Asked{first, second, third} {
		p.adds(t, a)
		p.holds(t, "P19.1: behind the others", []api.Asked{first, second, third}[:i+1]...)
	}
	p.refuses(t, "a fourth of three", first, api.ErrOutFull)
	p.isDue(t, "ahead of all", 102)
	p.takesNone(t, "another's number", 0xc0000202, 4711, asks(second))
	p.takes(t, "in the midst", 0xc0000202, 4464, asks(second), second)
	p.holds(t, "P19.2: what is left", first, third)
	p.takesNone(t, "it is gone", 0xc0000202, 4464, asks(second))
	p.adds(t, second)
	p.holds(t, "P19.1: behind the others", first, third, second)
	p.isDue(t, "two of three", 103, first, second)
	p.holds(t, "P19.2: what is left", third)
	p.takesNone(t, "it was due", 0xc0000201, 4711, asks(first))
	p.isDue(t, "the last one", 200, third)
	p.holds(t, "P19.2: nothing is left")
}

// Each edge that Add has, alone: what may be is held as it is, and taken as it is.
func TestAddAtItsEdges(t *testing.T) {
	for _, c := range []struct {
		spoil func(a *api.Asked, x int)
		right []int
		wrong []int
	}{
		{func(a *api.Asked, x int) { a.Id = x }, []int{0, 1, 2, 255, 256, 32767, 32768, 65534, 65535}, []int{-1, -2, -65535, -65536, 65536, 65537, 131072, 1<<32 + 1, math.MinInt, math.MaxInt}},
		{func(a *api.Asked, x int) { a.Addr = x }, []int{0, 1, 65535, 65536, 1<<31 - 1, 1 << 31, 1<<32 - 2, 1<<32 - 1}, []int{-1, -2, -1 << 31, -1 << 32, 1 << 32, 1<<32 + 1, 1 << 33, 1 << 48, math.MinInt, math.MaxInt}},
		{func(a *api.Asked, x int) { a.Step.Type = x }, []int{1, 2, 41, 255, 256, 32768, 65534, 65535}, []int{0, -1, -2, -65535, 65536, 65537, 131073, 1<<32 + 1, math.MinInt, math.MaxInt}},
		// Of these the chapter asks nothing.
		{func(a *api.Asked, x int) { a.Job = x }, []int{0, 1, -1, 1 << 40, math.MinInt, math.MaxInt}, nil},
		{func(a *api.Asked, x int) { a.Until = x }, []int{0, 1, -1, 1 << 40, math.MinInt, math.MaxInt}, nil},
	} {
		for _, x := range c.right {
			a := asked(5, 6, nameOf("a"), 7, 8)
			c.spoil(&a, x)
			p := filled(t, 1, a)
			p.holds(t, "P19.1: at an edge", a)
			p.takes(t, "at an edge", a.Addr, a.Id, asks(a), a)
			p.holds(t, "P19.2: it is gone")
		}
		for _, x := range c.wrong {
			a := asked(5, 6, nameOf("a"), 7, 8)
			c.spoil(&a, x)
			newPair(t, 1).refuses(t, "behind an edge", a, api.ErrOutForm)
			filled(t, 2, numbered(3)).refuses(t, "behind an edge", a, api.ErrOutForm)
		}
	}
}

// A Step's name must be one; a Cut and a Target are any texts.
func TestNamesAndTexts(t *testing.T) {
	for _, n := range oddNames() {
		for _, n := range []string{n, great(n), folded(n)} {
			a := asked(5, 6, n, 7, 8)
			p := filled(t, 1, a)
			p.holds(t, "P19.1: it is told as it came", a)
			p.takes(t, "it is told as it came", 5, 6, question(folded(n), 7, 1), a)
			a.Cut, a.Target = n, great(n)
			filled(t, 1, a).isDue(t, "it is told as it came", 8, a)
		}
	}
	for _, n := range noNames() {
		newPair(t, 1).refuses(t, "no name", asked(5, 6, n, 7, 8), api.ErrOutForm)
		a := asked(5, 6, nameOf("a"), 7, 8)
		a.Cut = n
		filled(t, 1, a).isDue(t, "a Cut that is no name", 8, a)
		a.Target = n
		filled(t, 1, a).holds(t, "P19.1: a Target that is no name", a)
		p := filled(t, 1, a)
		p.takesNone(t, "no name", 5, 6, question(n, 7, 1))
		p.takes(t, "texts that are no names", 5, 6, asks(a), a)
	}
	// What has no name, no cut and no target at all, but for its Step.
	bare := api.Asked{Step: api.Step{Name: root, Type: 1}}
	p := filled(t, 2, bare, bare)
	p.takes(t, "a bare one", 0, 0, question(root, 1, 1), bare)
	p.isDue(t, "a bare one", 0, bare)
}

// faults gives what makes a right one a wrong one.
func faults() map[string]func(a *api.Asked) {
	return map[string]func(a *api.Asked){
		"Id -1":       func(a *api.Asked) { a.Id = -1 },
		"Id 65536":    func(a *api.Asked) { a.Id = 65536 },
		"Addr -1":     func(a *api.Asked) { a.Addr = -1 },
		"Addr 2^32":   func(a *api.Asked) { a.Addr = 1 << 32 },
		"no name":     func(a *api.Asked) { a.Step.Name = "" },
		"a name cut":  func(a *api.Asked) { a.Step.Name = "\x02a\x00" },
		"type 0":      func(a *api.Asked) { a.Step.Type = 0 },
		"type 65536":  func(a *api.Asked) { a.Step.Type = 65536 },
		"as it was":   func(a *api.Asked) {},
		"another Job": func(a *api.Asked) { a.Job, a.Until = -9, -9 },
	}
}

// Each fault alone and each two and three of them together; into an empty table, one with room and a full one, where the form stands first.
func TestWrongOnes(t *testing.T) {
	right := asked(5, 6, nameOf("a"), 7, 8)
	for one, spoil := range faults() {
		for two, more := range faults() {
			for three, most := range faults() {
				a := right
				spoil(&a)
				more(&a)
				most(&a)
				if a.Step == right.Step && a.Id == right.Id && a.Addr == right.Addr {
					continue
				}
				what := one + ", " + two + ", " + three
				newPair(t, 2).refuses(t, what+", empty", a, api.ErrOutForm)
				filled(t, 3, right, numbered(1)).refuses(t, what+", with room", a, api.ErrOutForm)
				filled(t, 2, right, numbered(1)).refuses(t, what+", full", a, api.ErrOutForm)
			}
		}
	}
	filled(t, 2, right, right).refuses(t, "full alone", right, api.ErrOutFull)
	filled(t, 1, right).refuses(t, "nothing at all", api.Asked{}, api.ErrOutForm)
	newPair(t, 1).refuses(t, "nothing at all", api.Asked{}, api.ErrOutForm)
}

// Each size is kept: so many are held, and never one more; what is taken or due makes room for as many.
func TestItStaysWithinItsSize(t *testing.T) {
	for most := 1; most <= 16; most++ {
		p := newPair(t, most)
		var want []api.Asked
		for k := range most {
			want = append(want, numbered(k))
			p.adds(t, numbered(k))
			p.holds(t, "P19.1: one more", want...)
		}
		for k := range 3 {
			p.refuses(t, "full", numbered(k), api.ErrOutFull)
		}
		last := want[most-1]
		p.takes(t, "of a full one", last.Addr, last.Id, asks(last), last)
		p.adds(t, want[0])
		p.refuses(t, "full again", last, api.ErrOutFull)
		p.due(t, 105)
		for p.add(t, numbered(20)) == api.OK {
		}
		if got := len(p.x.All()); got != most {
			t.Errorf("P19.1: one of %d holds %d", most, got)
		}
		p.due(t, math.MaxInt)
		p.holds(t, "P19.2: all are gone")
		for k := range most {
			p.adds(t, numbered(most-k))
		}
		p.refuses(t, "full again", numbered(40), api.ErrOutFull)
	}
}

// What differs in one thing alone from what is held is not it; also where only the number's lower bits are its own.
func TestTakeOfWhatDiffers(t *testing.T) {
	n := nameOf("www", "example")
	for _, around := range [][]api.Asked{nil, {numbered(1)}, {numbered(1), numbered(2), numbered(3)}} {
		p := filled(t, 5, append(slices.Clone(around), asked(5, 6, n, 7, 8))...)
		for _, addr := range []int{0, 4, 6, -5, 5 + 1<<32, 5 - 1<<32, 5 + 1<<16, 5 << 8, math.MinInt, math.MaxInt} {
			p.takesNone(t, "another Addr", addr, 6, question(n, 7, 1))
		}
		for _, id := range []int{0, 5, 7, -6, 6 + 65536, 6 - 65536, 6 + 1<<32, 6 << 8, math.MinInt, math.MaxInt} {
			p.takesNone(t, "another Id", 5, id, question(n, 7, 1))
		}
		for _, kind := range []int{0, 1, 6, 8, -7, 255, 7 + 65536, 7 - 65536, 7 + 1<<32, math.MinInt, math.MaxInt} {
			p.takesNone(t, "another type", 5, 6, question(n, kind, 1))
		}
		for _, class := range []int{0, 2, 3, 4, 254, 255, -1, 65537, 1 - 65536, 1<<32 + 1, 1<<15 + 1, math.MinInt, math.MaxInt} {
			p.takesNone(t, "another class", 5, 6, question(n, 7, class))
		}
		for _, name := range append(append(noNames(), oddNames()...), nameOf("www", "exampl"), nameOf("ww", "example"), nameOf("wwwexample"), nameOf("example"), nameOf("a", "www", "example"), nameOf("www", "example", "b"), n[:len(n)-1], n+root, nameOf("example", "www"), nameOf("cut"), nameOf("target", "cut")) {
			p.takesNone(t, "another name", 5, 6, question(name, 7, 1))
		}
		p.takesNone(t, "Addr and Id changed about", 6, 5, question(n, 7, 1))
		p.takesNone(t, "nothing at all", 0, 0, api.Question{})
		p.takes(t, "what is held", 5, 6, question(n, 7, 1), asked(5, 6, n, 7, 8))
		p.holds(t, "P19.2: what is left", around...)
		p.takesNone(t, "it is gone", 5, 6, question(n, 7, 1))
	}
}

// Letters' cases turn nothing, on either side; what is told is the name as it was added.
func TestTakeInAnyCase(t *testing.T) {
	forms := []string{nameOf("www", "example"), nameOf("WWW", "EXAMPLE"), nameOf("wWw", "Example"), nameOf("Www", "examplE")}
	for _, held := range forms {
		for _, q := range forms {
			a := asked(5, 6, held, 7, 8)
			filled(t, 1, a).takes(t, "in another case", 5, 6, question(q, 7, 1), a)
		}
	}
	// No other bytes than letters have two cases.
	for c := range 256 {
		for d := range 256 {
			x, e := out.New(1)
			a := asked(5, 6, nameOf("x"+string([]byte{byte(c)})), 7, 8)
			if e != api.OK || x.Add(a) != api.OK {
				t.Fatalf("P19.1: %d", e)
			}
			q := nameOf("X" + string([]byte{byte(d)}))
			got, e := x.Take(5, 6, question(q, 7, 1))
			if is := folded(a.Step.Name) == folded(q); is && (got != a || e != api.OK) || !is && (got != api.Asked{} || e != api.ErrOutNone) {
				t.Fatalf("P19.2: %s by %s: %s, %d", tell(a.Step.Name), tell(q), tell(got), e)
			}
		}
	}
}

// Those that no reply can tell apart are taken in their row, whatever stands between them and however else they differ.
func TestTakeOfAlikeOnes(t *testing.T) {
	n := nameOf("Www", "example")
	alike := func(k int) api.Asked {
		a := asked(5, 6, []string{n, great(n), folded(n)}[k%3], 7, 200-k)
		a.Job, a.Cut, a.Target = 90-k, nameOf(fmt.Sprint(k)), fmt.Sprint(k)
		return a
	}
	q := question(nameOf("wwW", "Example"), 7, 1)
	p := filled(t, 2, alike(0), alike(1))
	p.takes(t, "the first of two", 5, 6, q, alike(0))
	p.holds(t, "P19.2: the other one", alike(1))
	p.takes(t, "the other one", 5, 6, q, alike(1))
	p.takesNone(t, "both are gone", 5, 6, q)
	p = filled(t, 2, alike(0), alike(0))
	p.takes(t, "the first of two that are one", 5, 6, q, alike(0))
	p.holds(t, "P19.2: the other one", alike(0))
	p.takes(t, "the other one", 5, 6, q, alike(0))
	for between := range 5 {
		p := newPair(t, 16)
		var others []api.Asked
		for k := range 3 {
			for i := range between {
				others = append(others, numbered(10*k+i))
				p.adds(t, numbered(10*k+i))
			}
			p.adds(t, alike(k))
		}
		p.takes(t, "the first", 5, 6, q, alike(0))
		p.adds(t, alike(3))
		for k := range 3 {
			p.takes(t, "the next one", 5, 6, q, alike(1+k))
		}
		p.takesNone(t, "all are gone", 5, 6, q)
		p.holds(t, "P19.2: those between", others...)
	}
}

// Of several alike ones those that are due go; which is then the first is taken.
func TestDueOfAlikeOnes(t *testing.T) {
	n := nameOf("a")
	for gone := range 1 << 5 {
		p := newPair(t, 5)
		var due, rest []api.Asked
		for k := range 5 {
			a := asked(5, 6, n, 7, 30+10*(gone>>k&1))
			a.Job = k
			p.adds(t, a)
			if a.Until == 30 {
				due = append(due, a)
			} else {
				rest = append(rest, a)
			}
		}
		p.isDue(t, "ahead of both", 29)
		p.isDue(t, "some of those alike", 39, due...)
		p.holds(t, "P19.2: the others", rest...)
		for _, a := range rest {
			p.takes(t, "the next one", 5, 6, question(n, 7, 1), a)
		}
		p.takesNone(t, "all are gone", 5, 6, question(n, 7, 1))
	}
}

// At the tick itself it is due, ahead of it not; ticks may be any numbers.
func TestDueAtItsEdges(t *testing.T) {
	for _, until := range []int{0, 1, -1, 100, 1000000, 1<<31 - 1, 1 << 40, -1 << 40, math.MaxInt - 1, math.MinInt + 1} {
		a := asked(5, 6, nameOf("a"), 7, until)
		for _, now := range []int{until - 1, until, until + 1, math.MinInt, math.MaxInt} {
			p := filled(t, 1, a)
			if now < until {
				p.isDue(t, "ahead of its tick", now)
				p.holds(t, "P19.2: it is held", a)
				continue
			}
			p.isDue(t, "at its tick or behind it", now, a)
			p.holds(t, "P19.2: it is gone")
		}
	}
	for _, until := range []int{math.MinInt, math.MaxInt} {
		a := asked(5, 6, nameOf("a"), 7, until)
		filled(t, 1, a).isDue(t, "at an end of all ticks", math.MaxInt, a)
		p := filled(t, 1, a)
		p.due(t, math.MinInt)
		p.due(t, 0)
		p.due(t, math.MaxInt-1)
		p.due(t, -5)
	}
}

// Of several those that are due come in their row, not in that of their ticks; what is left stays in its own.
func TestDueKeepsTheRow(t *testing.T) {
	var all []api.Asked
	for k, until := range []int{40, 10, 30, 20, 10, 40, 30} {
		all = append(all, asked(9-k, k*7%5, nameOf(string(rune('z'-k))), 1+k%2, until))
	}
	for _, now := range []int{9, 10, 19, 20, 29, 30, 39, 40, 41} {
		p := filled(t, 7, all...)
		var due, rest []api.Asked
		for _, a := range all {
			if a.Until <= now {
				due = append(due, a)
			} else {
				rest = append(rest, a)
			}
		}
		p.isDue(t, "several", now, due...)
		p.holds(t, "P19.2: what is left", rest...)
		p.isDue(t, "an earlier tick", now-5)
		p.isDue(t, "the others", 99, rest...)
	}
	p := filled(t, 7, all...)
	for _, step := range []struct {
		now  int
		want []api.Asked
	}{{10, []api.Asked{all[1], all[4]}}, {20, []api.Asked{all[3]}}, {30, []api.Asked{all[2], all[6]}}, {40, []api.Asked{all[0], all[5]}}} {
		p.isDue(t, "one tick behind another", step.now, step.want...)
	}
	p.holds(t, "P19.2: nothing is left")
}

// Each of a row is taken from each place, and what is left stands as it did; what comes then stands behind it.
func TestTakeKeepsTheRow(t *testing.T) {
	for most := 1; most <= 16; most++ {
		for i := range most {
			p := newPair(t, most)
			var want []api.Asked
			for k := range most {
				want = append(want, numbered(k))
				p.adds(t, numbered(k))
			}
			a := want[i]
			p.takes(t, "one of a row", a.Addr, a.Id, asks(a), a)
			want = slices.Delete(want, i, i+1)
			p.holds(t, "P19.2: what is left", want...)
			p.adds(t, a)
			p.holds(t, "P19.1: it is behind the others", append(want, a)...)
		}
	}
}
