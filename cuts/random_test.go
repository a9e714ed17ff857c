package cuts_test

import (
	"fmt"
	"math/rand"
	"slices"
	"testing"

	"wimple/api"
	"wimple/cuts"
)

// Every row of up to four calls out of some that are near each other, each at its own tick; so ticks go back, too.
func TestAllRowsOfCalls(t *testing.T) {
	a, b, c := nameOf("a"), nameOf("b", "a"), nameOf("c", "b", "a")
	h, k := nameOf("h"), nameOf("k")
	calls := []func(p *pair){
		func(p *pair) { p.put(t, with(telling(a, 10, h), glue(h, 1, 4)), root, 10) },
		func(p *pair) { p.put(t, with(telling(great(a), 5, k, h), glue(k, 1, 9)), root, 12) },
		func(p *pair) { p.put(t, with(telling(b, 10, h), glue(h, 2, 20)), a, 14) },
		func(p *pair) { p.put(t, telling(b, 3, great(k)), root, 17) },
		func(p *pair) { p.put(t, telling(c, 30, h), b, 20) },
		func(p *pair) { p.put(t, telling(c, 30, h), c, 40) },
		func(p *pair) { p.learn(t, h, 1, 18, 13) },
		func(p *pair) { p.learn(t, great(h), 1, 25, 15) },
		func(p *pair) { p.learn(t, h, 2, 16, 11) },
		func(p *pair) { p.learn(t, k, 1, 30, 16) },
	}
	names := []string{root, great(a), great(b), great(c), nameOf("x", "c", "b", "a"), h, ""}
	var rows func(row []int)
	rows = func(row []int) {
		p := plain(t)
		for _, i := range row {
			calls[i](p)
		}
		for _, now := range []int{9, 13, 14, 16, 17, 19, 20, 24, 29} {
			for _, n := range names {
				p.look(t, n, now)
			}
		}
		if len(row) == 4 {
			return
		}
		for i := range calls {
			rows(append(slices.Clone(row), i))
		}
	}
	rows(nil)
}

// someName gives one of few names, in some case.
func someName(r *rand.Rand) string {
	var labels []string
	for range r.Intn(4) {
		labels = append(labels, []string{"a", "b", "ab"}[r.Intn(3)])
	}
	n := nameOf(labels...)
	if r.Intn(3) == 0 {
		return great(n)
	}
	return n
}

// someHost gives one of few hosts, in some case.
func someHost(r *rand.Rand) string {
	n := nameOf([]string{"h", "i", "j", "k"}[r.Intn(4)], "ns")
	if r.Intn(3) == 0 {
		return great(n)
	}
	return n
}

// someDelegation gives one that is mostly right, and a from that mostly is too.
func someDelegation(r *rand.Rand) (api.Delegation, string) {
	d := api.Delegation{Cut: someName(r), Ttl: r.Intn(40) - 2}
	for range 1 + r.Intn(3) {
		if h := someHost(r); r.Intn(20) == 0 || !slices.ContainsFunc(d.Hosts, func(o string) bool { return folded(o) == folded(h) }) {
			d.Hosts = append(d.Hosts, h)
		}
	}
	for range r.Intn(5) {
		g := glue(d.Hosts[r.Intn(len(d.Hosts))], r.Intn(6), r.Intn(30)-2)
		if r.Intn(20) == 0 {
			g.Host = someHost(r)
		}
		if r.Intn(50) == 0 {
			g.Addr = oddAddrs()[r.Intn(len(oddAddrs()))]
		}
		d.Glue = append(d.Glue, g)
	}
	from := root
	if r.Intn(2) == 0 {
		from = someName(r)
	}
	return d, from
}

// Random calls at ticks that mostly rise, and sometimes go back.
func TestRandomCalls(t *testing.T) {
	r := rand.New(rand.NewSource(15))
	put := map[api.Errno]int{}
	learned, told := 0, 0
	for range 150 {
		p := newPair(t, api.Hint{Host: someHost(r), Addr: r.Intn(5)}, api.Hint{Host: someHost(r), Addr: r.Intn(5)})
		now := r.Intn(20)
		for range 120 {
			now = max(-3, now+[]int{-4, 0, 0, 1, 1, 2, 3}[r.Intn(7)])
			switch r.Intn(3) {
			case 0:
				d, from := someDelegation(r)
				put[p.put(t, d, from, now)]++
			default:
				_, was := p.m.find(nameOf("a"), now)
				p.learn(t, someHost(r), r.Intn(30), now+r.Intn(30)-2, now)
				if _, is := p.m.find(nameOf("a"), now); len(is) > len(was) {
					learned++
				}
			}
			for range 3 {
				hs, _ := p.look(t, someName(r), now+r.Intn(9)-3)
				told += len(hs)
			}
		}
		p.all(t, []string{root, ""}, now-20, now-1, now, now+1, now+20)
	}
	if put[api.OK] < 1000 || put[api.ErrCutsForm] < 1000 || len(put) != 2 || learned < 100 || told < 1000 {
		t.Errorf("not enough of each kind: %v, %d, %d", put, learned, told)
	}
}

// Random cuts, more than there is room for.
func TestRandomFullOnes(t *testing.T) {
	r := rand.New(rand.NewSource(16))
	for range 4 {
		p := plain(t)
		now, dropped := 0, 0
		for range 700 {
			now += r.Intn(2)
			was := len(p.m.live(now))
			ttl := 200 + r.Intn(30)*20
			if r.Intn(10) == 0 {
				ttl = r.Intn(9)
			}
			p.holds(t, telling(numbered(r.Intn(190)), ttl, nameOf("h")), root, now)
			if len(p.m.live(now)) == 128 && was == 128 {
				dropped++
			}
			for range 5 {
				p.deepest(t, numbered(r.Intn(190)), now)
			}
		}
		p.live(t, 190, now)
		p.live(t, 190, 0)
		if dropped < 50 {
			t.Errorf("not often enough full: %d", dropped)
		}
	}
}

// A cut that learned thousands of bindings, few of them live at a time, tells at each tick just what it should.
func TestLongRows(t *testing.T) {
	a, h, k := nameOf("a"), nameOf("h"), nameOf("k")
	for _, n := range []int{15, 16, 17, 31, 32, 33, 255, 256, 257, 258, 4095, 4096, 4097, 6000} {
		r := rand.New(rand.NewSource(int64(n)))
		p := plain(t)
		p.holds(t, with(telling(a, 100, h, k), glue(h, 1, 50), glue(k, 1, 5)), root, last)
		now := -n
		for len(p.m.below[0].all) < n {
			// The two of the glue are live all the time, and leave room for fourteen.
			until := now + 1 + r.Intn(4)
			if r.Intn(400) == 0 {
				until = now + r.Intn(2*n)
			}
			p.learn(t, []string{h, great(k)}[r.Intn(2)], r.Intn(40), until, now)
			now += r.Intn(2)
		}
		for range 60 {
			p.look(t, a, now-r.Intn(n/4+20)+3)
		}
		p.all(t, []string{a}, -2*n, -n, -n+1, -n/2, now-1, now, now+1, 0, last, last+50, last+99)
	}
}

// The same calls give the same answers each time, however a map is gone through.
func TestOneAnswerEachTime(t *testing.T) {
	var want string
	for turn := range 20 {
		r := rand.New(rand.NewSource(4))
		c, _ := cuts.New([]api.Hint{{Host: nameOf("r"), Addr: 1}})
		for range 300 {
			c.Put(telling(numbered(r.Intn(160)), 50+r.Intn(2), nameOf("h")), root, 10)
			c.Learn(nameOf("h"), r.Intn(9), 20+r.Intn(9), 10+r.Intn(4))
		}
		got := ""
		for i := range 160 {
			got += fmt.Sprint(c.Deepest(numbered(i), 10), c.Hosts(numbered(i), 10), c.Bindings(numbered(i), 10))
		}
		if turn == 0 {
			want = got
		}
		if got != want {
			t.Fatal("R5: the same calls answered otherwise")
		}
	}
}

func FuzzCuts(f *testing.F) {
	f.Add(nameOf("b", "a"), nameOf("A"), nameOf("h"), nameOf("K"), 1, 2, 10, 20, 5, 10, 15)
	f.Add(nameOf("a"), root, nameOf("h"), nameOf("H"), most, -1, 0, -5, 1<<40, last, last+1)
	f.Add("\x01a", root, root, "", 0, 0, 1, 86400, 86401, 0, 86400)
	f.Fuzz(func(t *testing.T, cut, from, h, k string, x, y int, ttl, ticks int, until, now, then int) {
		hints := []api.Hint{{Host: h, Addr: x}, {Host: k, Addr: y}}
		if c, e := cuts.New(hints); (e == api.OK) != (mayName(h) && mayName(k) && mayAddr(x) && mayAddr(y)) || (c == nil) != (e != api.OK) {
			t.Fatalf("P15.1: New(%s) = %v, %d", tell(hints), c, e)
		}
		p := plain(t)
		p.put(t, with(telling(cut, ttl, h, k), glue(k, x, ticks), glue(h, y, ttl), glue(k, x, ttl)), from, now)
		p.put(t, with(telling(cut, 50, h), glue(h, x, ticks)), root, now)
		p.put(t, telling(nameOf("x"), 50, h, k), root, now)
		for _, at := range []int{now, then} {
			p.learn(t, h, x, until, at)
			p.learn(t, k, y, at+1, at)
			p.learn(t, h, y, ticks, at)
			p.all(t, []string{cut, from, h, k, "\x01y" + cut}, now, then, until, until-1, at+1, now+ttl)
			p.put(t, with(telling(cut, ticks, k, h), glue(h, y, ttl)), from, at)
		}
		p.all(t, []string{cut, from, h, k}, now, then, now+ticks, now+ttl)
	})
}
