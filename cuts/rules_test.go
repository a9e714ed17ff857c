package cuts_test

import (
	"fmt"
	"math"
	"math/rand"
	"slices"
	"strings"
	"sync"
	"testing"
	"time"
	"unsafe"

	"wimple/api"
	"wimple/cuts"
)

func TestNilCuts(t *testing.T) {
	var none *cuts.Cuts
	for _, d := range []api.Delegation{{}, telling(nameOf("a"), 9, nameOf("h")), telling("", 9)} {
		for _, now := range oddTicks() {
			if e := none.Put(d, root, now); e != api.ErrNil {
				t.Errorf("R3: Put: %d", e)
			}
			none.Learn(nameOf("h"), 1, now+1, now)
			for _, n := range []string{"", root, nameOf("a")} {
				if got := none.Deepest(n, now); got != "" {
					t.Errorf("R3: Deepest: %s", tell(got))
				}
				if hs, bs := none.Hosts(n, now), none.Bindings(n, now); len(hs) != 0 || len(bs) != 0 {
					t.Errorf("R3: %s, %s", tell(hs), tell(bs))
				}
			}
		}
	}
}

// Of one that New did not make no more is asked than R1 asks.
func TestCutsThatNewDidNotMake(t *testing.T) {
	c := new(cuts.Cuts)
	for range 2 {
		c.Learn(nameOf("h"), 1, 20, 10)
		for _, n := range []string{"", root, nameOf("a"), nameOf("b", "a")} {
			c.Deepest(n, 10)
			c.Hosts(n, 10)
			c.Bindings(n, 10)
		}
		if e := c.Put(api.Delegation{}, root, 0); e != api.ErrCutsForm {
			t.Errorf("R1: %d", e)
		}
		for i := range 200 {
			c.Put(telling(numbered(i), 50, nameOf("h")), root, 10)
		}
	}
}

// Each has what it was told, and nothing of another one.
func TestEachIsItsOwn(t *testing.T) {
	one, two := plain(t), newPair(t, api.Hint{Host: nameOf("s"), Addr: 2})
	one.holds(t, with(telling(nameOf("a"), 50, nameOf("h")), glue(nameOf("h"), 3, 9)), root, 10)
	two.has(t, "P15.2: another one", nameOf("a"), 10, nil)
	two.holds(t, telling(nameOf("a"), 60, nameOf("h")), root, 10)
	two.learn(t, nameOf("h"), 4, 30, 10)
	one.all(t, []string{nameOf("a")}, 10, 59)
	two.all(t, []string{nameOf("a")}, 10, 59)
}

// view gives a string that changes with b.
func view(b []byte) string {
	return unsafe.String(unsafe.SliceData(b), len(b))
}

// lent is names whose memory is kept to be written over.
type lent struct {
	bytes [][]byte
	was   []string
}

func (l *lent) name(n string) string {
	b := []byte(n)
	l.bytes, l.was = append(l.bytes, b), append(l.was, n)
	return view(b)
}

// spoil holds that all names are as they were, and writes over them.
func (l *lent) spoil(t *testing.T) {
	t.Helper()
	for i, b := range l.bytes {
		if string(b) != l.was[i] {
			t.Errorf("R4: %q was changed to %q", l.was[i], b)
		}
		for j := range b {
			b[j] = 'x'
		}
	}
}

// What is handed in is as it was; writing over it changes nothing that is held.
func TestNothingHandedInIsKept(t *testing.T) {
	for _, form := range []func(string) string{folded, great} {
		var l lent
		name := func(labels ...string) string { return l.name(form(nameOf(labels...))) }
		hints := []api.Hint{{Host: name("r"), Addr: 1}, {Host: name("ss"), Addr: 2}}
		c, e := cuts.New(hints)
		if e != api.OK {
			t.Fatalf("P15.1: %d", e)
		}
		// Behind the lists there is room, in which nothing may be written.
		lists := append(make([]string, 0, 9), name("h"), name("kk"))
		bs := append(make([]api.Binding, 0, 9), bound(name("x"), name("h"), 5, name("y"), 30), bound("", name("kk"), 6, "", 30))
		given := api.Delegation{Cut: name("b", "aa"), Hosts: lists, Glue: bs, Ttl: 40}
		from := name("aa")
		if e := c.Put(given, from, 10); e != api.OK {
			t.Fatalf("P15.2: %d", e)
		}
		c.Learn(name("h"), 7, 45, 20)
		c.Deepest(name("c", "b", "aa"), 20)
		c.Hosts(name("b", "aa"), 20)
		c.Bindings(name("b", "aa"), 20)
		if !slices.Equal(lists[:9][2:], make([]string, 7)) || !slices.Equal(bs[:9][2:], make([]api.Binding, 7)) {
			t.Error("R4: the room behind a list was written to")
		}
		if given.Ttl != 40 || hints[0].Addr != 1 || hints[1].Addr != 2 || bs[0].Addr != 5 || bs[0].Until != 30 || bs[1].Addr != 6 || bs[1].Until != 30 {
			t.Error("R4: what was handed in was changed")
		}
		l.spoil(t)
		clear(hints)
		clear(lists[:9])
		clear(bs[:9])
		p := newPair(t, api.Hint{Host: nameOf("r"), Addr: 1}, api.Hint{Host: nameOf("ss"), Addr: 2})
		p.c = c
		p.m.put(with(telling(nameOf("b", "aa"), 40, nameOf("h"), nameOf("kk")), glue(nameOf("h"), 5, 30), glue(nameOf("kk"), 6, 30)), nameOf("aa"), 10)
		p.m.learn(nameOf("h"), 7, 45, 20)
		p.all(t, []string{nameOf("aa"), nameOf("c", "b", "aa")}, 10, 20, 39, 40, 44, 45, 49, 50)
	}
}

// lively gives a pair with bindings of glue and learned ones.
func lively(t *testing.T) *pair {
	t.Helper()
	p := newPair(t, api.Hint{Host: nameOf("root", "one"), Addr: 1}, api.Hint{Host: nameOf("root", "two"), Addr: 2}, api.Hint{Host: nameOf("Root", "one"), Addr: 3})
	cut, one, two := nameOf("some", "cut"), nameOf("host", "one"), nameOf("host", "two")
	p.holds(t, with(telling(cut, 90, one, two), glue(one, 5, 50), glue(two, 6, 50), glue(one, 7, 50)), nameOf("cut"), 10)
	p.holds(t, telling(nameOf("low", "some", "cut"), 90, two, one), cut, 10)
	for i := range 20 {
		p.learn(t, two, 100+i, 40+i, 20)
	}
	return p
}

// Writing over a list that is answered, and the room behind it, changes neither what is held nor another answer.
func TestListsOfTheirOwn(t *testing.T) {
	p := lively(t)
	names := []string{root, nameOf("some", "cut"), nameOf("low", "some", "cut")}
	for _, n := range names {
		hosts, bs := p.m.find(n, 20)
		for range 3 {
			h1, h2, b1, b2 := p.c.Hosts(n, 20), p.c.Hosts(n, 20), p.c.Bindings(n, 20), p.c.Bindings(n, 20)
			clear(h1[:cap(h1)])
			clear(b1[:cap(b1)])
			if !slices.Equal(h2, hosts) || !slices.Equal(b2, bs) {
				t.Fatalf("R4: %s, %s", tell(h2), tell(b2))
			}
			h2 = append(h2[:0], "over")
			b2 = append(b2[:0], api.Binding{Host: "over"})
			clear(h2[:cap(h2)])
			clear(b2[:cap(b2)])
		}
	}
	p.all(t, names, 20, 45, 50)
	for i := range 20 {
		p.learn(t, nameOf("host", "one"), 200+i, 99, 45)
	}
	p.all(t, names, 20, 45, 50)
}

// shares says whether two strings lie in one piece of memory; those of one byte, which the language keeps in one place for all, do not count.
func shares(a, b string) bool {
	if len(a) < 2 || len(b) < 2 {
		return false
	}
	from, to := uintptr(unsafe.Pointer(unsafe.StringData(a))), uintptr(unsafe.Pointer(unsafe.StringData(b)))
	return from < to+uintptr(len(b)) && to < from+uintptr(len(a))
}

// No name that is answered lies in the memory of what was handed in, nor in another answer's, nor in another name's of the same answer.
func TestNamesOfTheirOwn(t *testing.T) {
	p := lively(t)
	asked := []string{nameOf("some", "cut"), nameOf("www", "some", "cut"), nameOf("low", "some", "cut")}
	names := slices.Clone(asked)
	for range 3 {
		for _, n := range append(asked, root) {
			names = append(names, p.c.Deepest(n, 20))
			names = append(names, p.c.Hosts(n, 20)...)
			for _, b := range p.c.Bindings(n, 20) {
				names = append(names, b.Cut, b.Host, b.From)
			}
		}
	}
	for i, a := range names {
		for j, b := range names[:i] {
			if shares(a, b) {
				t.Fatalf("R4: the names %d and %d, %q and %q, share memory", i, j, a, b)
			}
		}
	}
	// Written over, as no caller may, an answer's names show whether they are what is held.
	for _, n := range names[len(asked):] {
		if len(n) < 2 {
			continue
		}
		for i, b := 0, unsafe.Slice(unsafe.StringData(n), len(n)); i < len(b); i++ {
			b[i] = 'x'
		}
	}
	p.all(t, []string{nameOf("some", "cut"), nameOf("www", "some", "cut")}, 20, 45, 50)
}

// Those of several goroutines have nothing in common.
func TestSeveralGoroutines(t *testing.T) {
	var all sync.WaitGroup
	for turn := range 8 {
		all.Go(func() {
			r := rand.New(rand.NewSource(int64(turn)))
			hints := []api.Hint{{Host: nameOf("r"), Addr: turn}}
			c, _ := cuts.New(hints)
			m := newModel(hints)
			for now := range 1000 {
				d, from := someDelegation(r)
				if got, want := c.Put(d, from, now), m.put(d, from, now); got != want {
					t.Errorf("P15.2: Put(%s, %s, %d) = %d, want %d", tell(d), tell(from), now, got, want)
					return
				}
				n := someName(r)
				if _, bs := m.find(n, now); !slices.Equal(c.Bindings(n, now), bs) || c.Deepest(n, now) != m.deepest(n, now) {
					t.Errorf("P15.3: of %s at %d", tell(n), now)
					return
				}
			}
		})
	}
	all.Wait()
}

// A million ticks, at each of which a cut learns an address for one tick; what is no longer live must not be gone over each time.
func TestAMillionTicks(t *testing.T) {
	began := time.Now()
	a, h := nameOf("a"), nameOf("h")
	p := plain(t)
	p.holds(t, with(telling(a, 86400, h), glue(h, 1, 86400)), root, last)
	for now := range 1000000 {
		p.c.Learn(h, 2, now+1, now)
		bs := p.c.Bindings(a, now)
		if len(bs) != 2 || bs[1].Addr != 2 || bs[1].Until != now+1 {
			t.Fatalf("P15.3: %s at %d", tell(bs), now)
		}
		if got := p.c.Bindings(a, now-1); now > 0 && len(got) != 3 {
			t.Fatalf("P15.3: %s at %d", tell(got), now-1)
		}
	}
	if took := time.Since(began); took > 30*time.Second {
		t.Errorf("it took %v", took)
	}
}

// What costs most: as many cuts as there may be, of the longest names that differ at their first label alone, all of one Until, and names far too long.
func TestItEndsSoon(t *testing.T) {
	began := time.Now()
	c, _ := cuts.New(manyHints(8))
	ones := strings.Repeat("\x01A", 125) + root
	var many []string
	for i := range 8 {
		many = append(many, fmt.Sprintf("\x02h%d", i)+ones[2:])
	}
	for i := range 3000 {
		cut := "\x03" + string([]byte{byte(i >> 16), byte(i >> 8), byte(i)}) + ones[2:]
		d := telling(cut, 60, many...)
		for k := range 8 {
			d.Glue = append(d.Glue, glue(many[7], k, 60))
		}
		if e := c.Put(d, ones[2:], 10); e != api.OK {
			t.Fatalf("P15.2: %d", e)
		}
	}
	for i := range 3000 {
		c.Learn(many[7], i, 60, 10)
		c.Deepest(ones, 10)
	}
	long := strings.Repeat("\x01a", 1<<20) + root
	for range 1000 {
		c.Learn(long, 1, 60, 10)
		if c.Deepest(long, 10) != root || len(c.Hosts(long, 10))+len(c.Bindings(long, 10)) != 0 {
			t.Fatal("P15.3: no name")
		}
		if e := c.Put(telling(long, 9, long), long, 10); e != api.ErrCutsForm {
			t.Fatalf("P15.2: %d", e)
		}
	}
	if took := time.Since(began); took > 20*time.Second {
		t.Errorf("it took %v", took)
	}
}

// Ticks at the ends of an int: what is answered is what the words say, without a turn round.
func TestEndsOfTheInts(t *testing.T) {
	a, h := nameOf("a"), nameOf("h")
	p := plain(t)
	p.holds(t, telling(a, math.MaxInt, h), root, last)
	p.learn(t, h, 1, math.MaxInt, math.MinInt)
	p.learn(t, h, 2, math.MinInt+1, math.MinInt)
	p.learn(t, h, 3, math.MinInt, math.MinInt)
	p.learn(t, h, 4, math.MaxInt, last+86399)
	p.learn(t, h, 5, math.MaxInt, last+86400)
	p.has(t, "P15.3", a, math.MinInt, hosts("h"), bound(a, h, 1, root, math.MaxInt), bound(a, h, 2, root, math.MinInt+1), bound(a, h, 4, root, math.MaxInt))
	p.has(t, "P15.3", a, last+86399, hosts("h"), bound(a, h, 1, root, math.MaxInt), bound(a, h, 4, root, math.MaxInt))
	p.has(t, "P15.3", a, last+86400, nil)
	p.all(t, []string{a}, oddTicks()...)
}
