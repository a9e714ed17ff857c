package class_test

import (
	"math/rand"
	"slices"
	"strings"
	"testing"
	"time"

	"wimple/api"
	"wimple/class"
	"wimple/wire"
)

// near gives a name of few labels, mostly one on a way down, at times none.
func near(r *rand.Rand) string {
	way := []string{"a.b.c", "A.b.C", "b.c", "B.c", "c", "C", "", "x.b.c", "x.c", "d", "x.a.b.c"}
	if r.Intn(30) == 0 {
		return []string{"", "a", "\x01b", "\x01b\x00\x00"}[r.Intn(4)]
	}
	return named(way[r.Intn(len(way))])
}

// someRr gives a record, mostly of a name and a type that count.
func someRr(r *rand.Rand) api.Rr {
	x := api.Rr{Name: near(r), Type: []int{1, 1, 2, 5, 6, 16}[r.Intn(6)], Class: 1, Ttl: []int{r.Intn(100), 86399 + r.Intn(3), -1}[r.Intn(3)]}
	switch {
	case x.Type == 1:
		x.Data = string([]byte{0, 0, byte(r.Intn(2)), byte(r.Intn(3))})[r.Intn(10)/9:]
	case x.Type == 2:
		x.Data = near(r)
	}
	return x
}

func someRrs(r *rand.Rand, most int) []api.Rr {
	var out []api.Rr
	for range r.Intn(most + 1) {
		out = append(out, someRr(r))
	}
	return out
}

// some gives a reply, a task and a question; of two replies one is a referral, or nearly so.
func some(r *rand.Rand) (api.Msg, api.Task, api.Step) {
	m := api.Msg{An: someRrs(r, 3), Ns: someRrs(r, 3), Ar: someRrs(r, 6)}
	m.Head.Aa, m.Head.Tc = r.Intn(4) == 0, r.Intn(10) == 0
	if r.Intn(4) == 0 {
		m.Head.Rcode = r.Intn(6)
	}
	x := api.Task{Name: named([]string{"a.b.c", "A.B.c"}[r.Intn(2)]), Type: []int{1, 5, 16}[r.Intn(3)], Cut: named([]string{"", "c", "b.c", "C"}[r.Intn(4)])}
	s := api.Step{Name: named([]string{"a.b.c", "a.B.c", "b.C", "c"}[r.Intn(4)]), Type: []int{1, x.Type, x.Type}[r.Intn(3)]}
	if r.Intn(20) == 0 {
		x.Name, x.Cut, s.Name = near(r), near(r), near(r)
	}
	if r.Intn(2) == 0 {
		m.An, m.Head = nil, api.Head{}
		for range r.Intn(14) {
			m.Ns = append(m.Ns, api.Rr{Name: named("b.c"), Type: 2, Ttl: r.Intn(90000), Data: near(r)})
		}
		if r.Intn(3) > 0 {
			m.Ns = slices.DeleteFunc(m.Ns, func(x api.Rr) bool { return x.Type == 2 && !isSame(x.Name, named("b.c")) })
		}
		m.Ar = append(m.Ar, someRrs(r, 40)...)
		r.Shuffle(len(m.Ns), func(i, j int) { m.Ns[i], m.Ns[j] = m.Ns[j], m.Ns[i] })
	}
	return m, x, s
}

func TestRandomReplies(t *testing.T) {
	r := rand.New(rand.NewSource(21))
	var seen [8]int
	for range 60000 {
		m, x, s := some(r)
		seen[check(t, m, x, s)]++
	}
	for kind, k := range seen {
		if k < 200 {
			t.Errorf("P21.1: class %d was come to %d times", kind, k)
		}
	}
}

// All small replies: each part may have each of a few records, with each of the bits that count.
func TestSmallReplies(t *testing.T) {
	ans := [][]api.Rr{nil, row(txt("www.zone.example")), row(cname("www.zone.example")), row(txt("zone.example"))}
	one := row(ns("zone.example", "h"), ns("example", "h"), ns("www.zone.example", "h"), ns("x.example", "no."), soa("example"), soa("x.example"), txt("example"))
	var all [][]api.Rr
	for _, x := range one {
		all = append(all, row(x))
		for _, y := range one {
			all = append(all, row(x, y), row(x, y, one[0]))
		}
	}
	for _, an := range ans {
		for _, ns := range append(all, nil) {
			for bits := range 16 {
				m := reply(an, ns, nil)
				m.Head.Aa, m.Head.Tc, m.Head.Rcode = bits%2 == 1, bits/2%2 == 1, []int{0, 2, 3, 5}[bits/4]
				for _, kind := range []int{1, 5, 16} {
					for _, n := range []string{"www.zone.example", "WWW.zone.example", "zone.example", "example"} {
						for _, at := range []string{"", "example", "zone.example"} {
							x, s := target, api.Step{Name: named(n), Type: 16}
							x.Type, x.Cut = kind, named(at)
							check(t, m, x, s)
							s.Type = 5
							check(t, m, x, s)
						}
					}
				}
			}
		}
	}
}

// The greatest replies, of hosts and addresses that all are looked at, end soon, and so do greater ones than any message.
func TestItEndsSoon(t *testing.T) {
	begun := time.Now()
	label := "\x3f" + strings.Repeat("a", 63)
	m := reply(nil, nil, nil)
	for i := range 20000 {
		host := label + label + label + "\x3b" + strings.Repeat("b", 57) + string([]byte{byte(i >> 8), byte(i)}) + root
		m.Ns = append(m.Ns, zoneNs(60, host))
		m.Ar = append(m.Ar, api.Rr{Name: host, Type: 1, Ttl: 60, Data: "abcd"}, api.Rr{Name: named("zone.example"), Type: 1, Data: "abcd"})
	}
	for range 3 {
		d, e := class.Refer(m, target, full)
		if len(d.Hosts) != 8 || len(d.Glue) != 8 || e != api.OK {
			t.Fatalf("P21.2: %s, %d", tell(d), e)
		}
	}
	m.Ns, m.Ar = m.Ns[:64], m.Ar[:64]
	check(t, m, target, full)
	for range 1000 {
		if d, e := class.Refer(m, target, full); len(d.Hosts) != 8 || e != api.OK {
			t.Fatalf("P21.2: %s, %d", tell(d), e)
		}
	}
	if took := time.Since(begun); took > 20*time.Second {
		t.Errorf("R1: it took %v", took)
	}
}

// What replies from bytes come to, with whatever names are looked for.
func FuzzClasses(f *testing.F) {
	for _, m := range all() {
		s, e := wire.Put(m)
		if e != api.OK {
			m.Ns, m.Ar = m.Ns[2:10], nil
			s, _ = wire.Put(m)
		}
		f.Add(s, target.Name, target.Cut, full.Name, 16, 16)
		f.Add(s, target.Name, target.Cut, short.Name, 16, 1)
	}
	f.Fuzz(func(t *testing.T, b, n, at, asked string, kind, step int) {
		m, _ := wire.Get(b)
		check(t, m, api.Task{Name: n, Type: kind, Cut: at}, api.Step{Name: asked, Type: step})
	})
}
