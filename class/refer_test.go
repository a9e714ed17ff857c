package class_test

import (
	"fmt"
	"slices"
	"strings"
	"testing"

	"wimple/api"
	"wimple/class"
)

// What a referral is, and what is none for one reason alone: the classes of a full question and of one for the zone.
func TestReferrals(t *testing.T) {
	zone := row(ns("zone.example", "a.host"), ns("ZONE.example", "b.host"))
	cases := map[string]struct {
		m           api.Msg
		full, short int
	}{
		"of two hosts":             {reply(nil, zone, nil), api.ClassRefer, api.ClassRefer},
		"of one":                   {reply(nil, zone[:1], nil), api.ClassRefer, api.ClassRefer},
		"beside others in Ns":      {reply(nil, row(txt("a"), zone[0], soa("example"), zone[1], a("zone.example", 5)), nil), api.ClassRefer, api.ClassRefer},
		"beside records in Ar":     {reply(nil, zone, row(txt("www.zone.example"), ns("example", "a.host"))), api.ClassRefer, api.ClassRefer},
		"beside Aa":                {aa(reply(nil, zone, nil)), api.ClassNodata, api.ClassStep},
		"beside a record in An":    {reply(row(a("a", 5)), zone, nil), api.ClassBad, api.ClassStep},
		"beside one, and a soa":    {reply(row(a("a", 5)), append(zone, soa("example")), nil), api.ClassNodata, api.ClassStep},
		"beside an answer":         {reply(row(txt("www.zone.example")), zone, nil), api.ClassAnswer, api.ClassStep},
		"beside a cname":           {reply(row(cname("www.zone.example")), zone, nil), api.ClassCname, api.ClassStep},
		"without a TypeNs":         {reply(nil, row(txt("zone.example"), a("zone.example", 5)), nil), api.ClassBad, api.ClassStep},
		"its TypeNs in Ar":         {reply(nil, nil, zone), api.ClassBad, api.ClassStep},
		"its TypeNs in An":         {reply(zone, nil, nil), api.ClassBad, api.ClassStep},
		"of two names":             {reply(nil, row(zone[0], ns("www.zone.example", "a.host")), nil), api.ClassBad, api.ClassStep},
		"of two, the other ahead":  {reply(nil, row(ns("example", "a.host"), zone[0]), nil), api.ClassBad, api.ClassStep},
		"of two, the last but one": {reply(nil, row(zone[0], zone[1], ns("else", "a.host"), zone[0]), nil), api.ClassBad, api.ClassStep},
		"of two and a soa":         {reply(nil, row(zone[0], soa("example"), ns("else", "a.host")), nil), api.ClassNodata, api.ClassStep},
		"at the cut":               {reply(nil, row(ns("Example", "a.host")), nil), api.ClassBad, api.ClassStep},
		"at the root":              {reply(nil, row(ns("", "a.host")), nil), api.ClassBad, api.ClassStep},
		"not below the cut":        {reply(nil, row(ns("zone.examplf", "a.host")), nil), api.ClassBad, api.ClassStep},
		"not above the target":     {reply(nil, row(ns("zonf.example", "a.host")), nil), api.ClassBad, api.ClassStep},
		"below the target":         {reply(nil, row(ns("a.www.zone.example", "a.host")), nil), api.ClassBad, api.ClassStep},
		"at the target":            {reply(nil, row(ns("wWw.zone.example", "a.host")), nil), api.ClassRefer, api.ClassStep},
		"of what is no name":       {reply(nil, row(api.Rr{Name: "zone", Type: 2, Data: root}), nil), api.ClassBad, api.ClassStep},
		"of it twice":              {reply(nil, row(api.Rr{Name: "zone", Type: 2}, api.Rr{Name: "zone", Type: 2}), nil), api.ClassBad, api.ClassStep},
		"of it beside a name":      {reply(nil, append(row(api.Rr{Type: 2}), zone...), nil), api.ClassBad, api.ClassStep},
		"of it behind a name":      {reply(nil, append(slices.Clone(zone), api.Rr{Type: 2}), nil), api.ClassBad, api.ClassStep},
	}
	for what, c := range cases {
		says(t, what, c.m, target, full, c.full)
		says(t, what, c.m, target, short, c.short)
		for _, s := range []api.Step{full, short} {
			if want, _ := wantOf(c.m, target, s); want != api.ClassRefer {
				refersNot(t, what, c.m, target, s)
			}
		}
	}
}

// Each place of a cut, of a question and of a referral on one way down.
func TestPlacesOnTheWay(t *testing.T) {
	way := []string{"", "e", "d.e", "c.d.e", "b.c.d.e", "a.b.c.d.e"}
	for at := range way {
		for asked := range way {
			for told := range way {
				for _, kind := range []int{1, 16} {
					x := api.Task{Name: named("A.b.c.D.e"), Type: 16, Cut: named(way[at])}
					s := api.Step{Name: named(way[asked]), Type: kind}
					m := reply(nil, row(ns(way[told], "h"), ns(strings.ToUpper(way[told]), "i")), row(a("h", 5)))
					if at > asked {
						refuses(t, "the cut below", m, x, s)
						continue
					}
					want := api.ClassStep
					if asked == 5 && kind == 16 {
						want = api.ClassBad
					}
					if at < told && told <= asked {
						want = api.ClassRefer
					}
					says(t, fmt.Sprint(at, asked, told), m, x, s, want)
				}
			}
		}
	}
}

// zoneNs gives a TypeNs of the zone with a Ttl and data.
func zoneNs(ttl int, data string) api.Rr {
	return rr("zone.example", 2, ttl, data)
}

// delegated gives what is told of the zone.
func delegated(ttl int, hosts ...string) api.Delegation {
	d := api.Delegation{Cut: named("zone.example"), Ttl: ttl}
	for _, h := range hosts {
		d.Hosts = append(d.Hosts, named(h))
	}
	return d
}

// bound gives d with a binding more.
func bound(d api.Delegation, host string, addr, until int) api.Delegation {
	d.Glue = append(slices.Clone(d.Glue), api.Binding{Host: named(host), Addr: addr, Until: until})
	return d
}

func TestRefer(t *testing.T) {
	m := reply(nil, row(rr("Zone.EXAMPLE", 2, 300, named("NS2.Host")), rr("zone.example", 2, 200, named("ns1.host"))), row(
		a("ns2.host", 6), rr("NS1.Host", 1, 50, "\xff\x00\x00\x01"), a("ns3.host", 7), txt("ns1.host"), rr("ns1.host", 28, 60, "0123456789abcdef")))
	want := bound(bound(delegated(200, "ns1.host", "ns2.host"), "ns2.host", 6, 60), "ns1.host", 0xff000001, 50)
	refers(t, "an ordinary one", m, want)
	d, e := class.Refer(m, target, short)
	if !same(d, want) || e != api.OK {
		t.Errorf("P21.2: to another question: %s, %d", tell(d), e)
	}
	refers(t, "to the target itself", reply(nil, row(ns("WWW.zone.example", "h")), nil), api.Delegation{Cut: named("www.zone.example"), Hosts: []string{named("h")}, Ttl: 60})
	refers(t, "to the root as host", reply(nil, row(zoneNs(60, root)), row(a("", 5))), bound(delegated(60, ""), "", 5, 60))
}

// Refer takes what Of calls a referral, and nothing else.
func TestReferOfOthers(t *testing.T) {
	for what, m := range replies() {
		for _, s := range []api.Step{full, typed, short, shortT, atCut} {
			if check(t, m, target, s) != api.ClassRefer {
				refersNot(t, what, m, target, s)
			}
			refersNot(t, what+", Aa", aa(m), target, s)
			refersNot(t, what+", Tc", cut(m), target, s)
			refersNot(t, what+", Rcode", failing(m, 3), target, s)
		}
	}
	refersNot(t, "nothing", api.Msg{}, api.Task{}, api.Step{})
}

// Hosts whose data is no name are let go, with their Ttls; where none is left, there is no host, and MaxTtl.
func TestHostsThatAreNoNames(t *testing.T) {
	for _, data := range []string{"", "a", "\x01a", "\x01a\x00\x00", "\x00\x00", "\x40" + strings.Repeat("a", 64) + root, strings.Repeat("\x01a", 128) + root} {
		refers(t, "none", reply(nil, row(zoneNs(5, data)), row(a("", 5), api.Rr{Name: data, Type: 1, Ttl: 60, Data: "abcd"})), delegated(86400))
		refers(t, "one ahead", reply(nil, row(zoneNs(5, data), zoneNs(50, named("h"))), nil), delegated(50, "h"))
		refers(t, "one behind", reply(nil, row(zoneNs(50, named("h")), zoneNs(5, data)), nil), delegated(50, "h"))
		// Its name counts still: another one, and there is no referral.
		says(t, "another name", reply(nil, row(zoneNs(50, named("h")), rr("example", 2, 5, data)), nil), target, full, api.ClassBad)
	}
}

// Each host once, whatever its letters, in the order of names, not in that of bytes nor in their row.
func TestHostsRise(t *testing.T) {
	refers(t, "one twice", reply(nil, row(zoneNs(60, named("h")), zoneNs(60, named("h"))), nil), delegated(60, "h"))
	refers(t, "in other letters", reply(nil, row(zoneNs(60, named("A.Host")), zoneNs(50, named("a.hOST")), zoneNs(70, named("a.host"))), nil), delegated(50, "a.host"))
	rising := []string{"", "a", "z.a", "aa", "a.aa", "b", "a.b", "aa.b", "b.b", "a.b.b"}
	for i := range rising[:3] {
		eight := rising[i : i+8]
		for turn := range 8 {
			var all []api.Rr
			for k := range 8 {
				all = append(all, zoneNs(60, great(named(eight[(k*3+turn)%8]))), zoneNs(60, named(eight[(k*5+turn)%8])))
			}
			refers(t, fmt.Sprint("a row ", i, turn), reply(nil, all, nil), delegated(60, eight...))
		}
	}
}

// Of more than MaxAddrs hosts the first ones by Compare are told; the Ttls of all count, and glue of the others doesn't.
func TestManyHosts(t *testing.T) {
	for many := 1; many <= 26; many++ {
		var all, glue []api.Rr
		want := delegated(1000-many+1, strings.Split("a b c d e f g h", " ")[:min(many, 8)]...)
		for i := range many {
			host := string([]byte{byte('a' + i)})
			all = append(all, zoneNs(1000-i, named(host)))
			glue = append(glue, a(host, byte(i)))
		}
		for i := range min(many, 8) {
			want = bound(want, string([]byte{byte('a' + i)}), i, 60)
		}
		refers(t, fmt.Sprint(many, " hosts"), reply(nil, all, glue), want)
		slices.Reverse(all)
		refers(t, fmt.Sprint(many, " hosts that fall"), reply(nil, all, glue), want)
		slices.Reverse(glue)
		slices.Reverse(want.Glue)
		refers(t, fmt.Sprint(many, " hosts, glue that falls"), reply(nil, all, glue), want)
		// The same one in two letters is one of eight.
		refers(t, fmt.Sprint(many, " hosts, one twice"), reply(nil, append(all, zoneNs(1000, named("A"))), glue), want)
	}
}

// The least Ttl, at most MaxTtl, of all that tell a host.
func TestTtls(t *testing.T) {
	for _, c := range []struct {
		ttls []int
		want int
	}{{[]int{0}, 0}, {[]int{1}, 1}, {[]int{86399}, 86399}, {[]int{86400}, 86400}, {[]int{86401}, 86400}, {[]int{1<<32 - 1}, 86400}, {[]int{1 << 50, 86401}, 86400}, {[]int{90000, 5, 7}, 5}, {[]int{5, 90000}, 5}, {[]int{7, 5, 6}, 5}, {[]int{-1}, -1}, {[]int{3, -1 << 50}, -1 << 50}, {nil, 86400}} {
		m, same := reply(nil, row(zoneNs(1, "")), nil), reply(nil, row(zoneNs(1, "")), nil)
		want, one := delegated(c.want), delegated(c.want)
		for i, ttl := range c.ttls {
			host := string([]byte{byte('a' + i)})
			m.Ns = append(m.Ns, zoneNs(ttl, named(host)))
			same.Ns = append(same.Ns, zoneNs(ttl, named("h")))
			want.Hosts = append(want.Hosts, named(host))
			one.Hosts = []string{named("h")}
		}
		// Ttls of other records count for nothing.
		m.Ns = append(m.Ns, rr("zone.example", 6, 0, ""), rr("zone.example", 16, 0, named("h")))
		refers(t, fmt.Sprint(c.ttls), m, want)
		refers(t, fmt.Sprint("of one host ", c.ttls), same, one)
	}
}

// Glue that is left out: another name, another type, data that may not be, another part.
func TestGlueThatIsLeftOut(t *testing.T) {
	hosts := row(ns("zone.example", "H.host"), ns("zone.example", "i.host"))
	left := []api.Rr{
		a("host", 5), a("g.host", 5), a("a.h.host", 5), a("", 5), a("zone.example", 5), {Name: "no name", Type: 1, Data: "abcd"}, {Type: 1, Data: "abcd"}, {Name: named("h.host")[1:], Type: 1, Data: "abcd"},
		rr("h.host", 28, 60, "0123456789abcdef"), rr("h.host", 28, 60, "abcd"), rr("h.host", 2, 60, "abcd"), rr("h.host", 16, 60, "abcd"), rr("h.host", 0, 60, "abcd"), rr("h.host", 257, 60, "abcd"), rr("h.host", 65537, 60, "abcd"),
		rr("h.host", 1, 60, ""), rr("h.host", 1, 60, "abc"), rr("h.host", 1, 60, "abcde"), rr("h.host", 1, 60, "0123456789abcdef"),
	}
	for _, x := range left {
		refers(t, tell(x), reply(nil, hosts, row(x)), delegated(60, "h.host", "i.host"))
	}
	refers(t, "all of these", reply(nil, hosts, left), delegated(60, "h.host", "i.host"))
	want := bound(bound(delegated(60, "h.host", "i.host"), "i.host", 9, 60), "h.host", 8, 60)
	for i := range left {
		all := slices.Insert(append(slices.Clone(left), a("h.HOST", 8)), i, a("I.host", 9))
		refers(t, "two among them", reply(nil, hosts, all), want)
	}
	refers(t, "in Ns", reply(nil, append(slices.Clone(hosts), a("h.host", 5)), nil), delegated(60, "h.host", "i.host"))
}

// The class of glue counts for nothing here: what may be told was asked by layer 12.
func TestGlueOfAnyClass(t *testing.T) {
	for _, kind := range []int{-1, 0, 1, 3, 255, 65536} {
		x := a("h", 5)
		x.Class = kind
		refers(t, "a class", reply(nil, row(ns("zone.example", "h")), row(x)), bound(delegated(60, "h"), "h", 5, 60))
	}
}

// Each host and address once, as the first one told it; the same address of two hosts, and two of one, are several.
func TestGlueOnce(t *testing.T) {
	hosts := row(ns("zone.example", "h"), ns("zone.example", "i"))
	want := bound(bound(bound(delegated(60, "h", "i"), "i", 5, 7), "h", 5, 60), "i", 6, 60)
	ar := row(rr("i", 1, 7, "\x00\x00\x00\x05"), rr("I", 1, 3, "\x00\x00\x00\x05"), a("H", 5), rr("i", 1, 9, "\x00\x00\x00\x05"), rr("h", 1, 1, "\x00\x00\x00\x05"), a("i", 6), a("I", 6))
	refers(t, "twice each", reply(nil, hosts, ar), want)
	refers(t, "four times each", reply(nil, hosts, append(ar, ar...)), want)
}

// The first MaxAddrs of those that count are told, whatever stands between.
func TestManyAddresses(t *testing.T) {
	hosts := row(ns("zone.example", "h"), ns("zone.example", "i"))
	for many := range 30 {
		want := delegated(60, "h", "i")
		var all []api.Rr
		for i := range many {
			host := []string{"h", "i"}[i/2%2]
			all = append(all, a(host, byte(i)), txt(host), a(strings.ToUpper(host), byte(i)), a("else", byte(i)), rr(host, 1, 5, "abc"), a(host, 0))
			// The last one of each six tells the address 0, which the host h has first.
			if len(want.Glue) < 8 {
				want = bound(want, host, i, 60)
			}
			if len(want.Glue) < 8 && i == 2 {
				want = bound(want, host, 0, 60)
			}
		}
		refers(t, fmt.Sprint(many, " addresses"), reply(nil, hosts, all), want)
	}
}

func TestGlueLasts(t *testing.T) {
	for _, ttl := range []int{-1 << 50, -1, 0, 1, 59, 86399, 86400, 86401, 1<<32 - 1, 1 << 50} {
		want := bound(delegated(60, "h"), "h", 5, min(ttl, 86400))
		refers(t, fmt.Sprint(ttl), reply(nil, row(ns("zone.example", "h")), row(rr("h", 1, ttl, "\x00\x00\x00\x05"))), want)
	}
}

// Each byte of an address counts.
func TestAddresses(t *testing.T) {
	for _, addr := range []int{0, 1, 255, 256, 65535, 65536, 1 << 24, 0x01020304, 0x7fffffff, 0x80000000, 0xffffffff} {
		data := string([]byte{byte(addr >> 24), byte(addr >> 16), byte(addr >> 8), byte(addr)})
		refers(t, fmt.Sprint(addr), reply(nil, row(ns("zone.example", "h")), row(rr("h", 1, 60, data))), bound(delegated(60, "h"), "h", addr, 60))
	}
}
