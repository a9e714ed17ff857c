package serve_test

import (
	"fmt"
	"math"
	"math/rand"
	"slices"
	"strings"
	"testing"
	"time"

	"wimple/api"
	"wimple/cuts"
	"wimple/name"
	"wimple/rel"
	"wimple/serve"
)

const root = "\x00"

// nameOf gives the name of the labels.
func nameOf(labels ...string) string {
	out := ""
	for _, l := range labels {
		out += string([]byte{byte(len(l))}) + l
	}
	return out + root
}

// names gives the name of each text, whose labels have dots between them.
func names(texts ...string) []string {
	out := make([]string, len(texts))
	for i, s := range texts {
		out[i] = nameOf(strings.FieldsFunc(s, func(c rune) bool { return c == '.' })...)
	}
	return out
}

// of gives a binding; what it says beside is for no call to look at.
func of(cut, host string, addr int) api.Binding {
	return api.Binding{Cut: cut, Host: host, Addr: addr, From: nameOf("from"), Until: 90}
}

// at gives bindings of those addresses, all of one cut and host.
func at(addrs ...int) []api.Binding {
	out := make([]api.Binding, len(addrs))
	for i, a := range addrs {
		out[i] = of(nameOf("cut"), nameOf("ns", "cut"), a)
	}
	return out
}

// by gives one binding of each host, all of one cut.
func by(cut string, hosts ...string) []api.Binding {
	out := make([]api.Binding, len(hosts))
	for i, h := range hosts {
		out[i] = of(cut, h, i+1)
	}
	return out
}

// tell shortens what is told.
func tell(x any) string {
	s := fmt.Sprintf("%+q", fmt.Sprintf("%+v", x))
	if len(s) > 900 {
		return s[:900] + ".."
	}
	return s
}

// great gives n with its small letters made great.
func great(n string) string {
	out := []byte(n)
	for i, c := range out {
		if c >= 97 && c <= 122 {
			out[i] = c - 32
		}
	}
	return string(out)
}

// wantAddrs is P16.1, gone through from the last one on: an address stands where no binding ahead has it.
func wantAddrs(bs []api.Binding) []int {
	var out []int
	for i := len(bs) - 1; i >= 0; i-- {
		has := func(b api.Binding) bool { return b.Addr == bs[i].Addr }
		if !slices.ContainsFunc(bs[:i], has) {
			out = append([]int{bs[i].Addr}, out...)
		}
	}
	return out
}

// wantWanting is P16.2: what doesn't want anything is cut out of a copy of the hosts.
func wantWanting(hosts []string, bs []api.Binding) []string {
	return slices.DeleteFunc(slices.Clone(hosts), func(h string) bool {
		for _, b := range bs {
			if rel.Same(b.Host, h) || rel.Above(bs[0].Cut, h) {
				return true
			}
		}
		return false
	})
}

// checkAddrs holds Addrs against P16.1; nor may it change bs, or the room behind.
func checkAddrs(t *testing.T, bs []api.Binding) []int {
	t.Helper()
	was := slices.Clone(bs[:cap(bs)])
	got := serve.Addrs(bs)
	if want := wantAddrs(bs); !slices.Equal(got, want) {
		t.Fatalf("P16.1: Addrs(%s) = %s, want %s", tell(bs), tell(got), tell(want))
	}
	if !slices.Equal(bs[:cap(bs)], was) {
		t.Fatalf("R4: Addrs changed %s to %s", tell(was), tell(bs[:cap(bs)]))
	}
	return got
}

// check holds Wanting against P16.2; nor may it change its lists, or the room behind them.
func check(t *testing.T, hosts []string, bs []api.Binding) []string {
	t.Helper()
	hostsWere, were := slices.Clone(hosts[:cap(hosts)]), slices.Clone(bs[:cap(bs)])
	got := serve.Wanting(hosts, bs)
	if want := wantWanting(hosts, bs); !slices.Equal(got, want) {
		t.Fatalf("P16.2: Wanting(%s, %s) = %s, want %s", tell(hosts), tell(bs), tell(got), tell(want))
	}
	if !slices.Equal(hosts[:cap(hosts)], hostsWere) || !slices.Equal(bs[:cap(bs)], were) {
		t.Fatalf("R4: Wanting changed %s, %s to %s, %s", tell(hostsWere), tell(were), tell(hosts[:cap(hosts)]), tell(bs[:cap(bs)]))
	}
	return got
}

// wantRow holds Wanting against hosts that are written out.
func wantRow(t *testing.T, what string, hosts []string, bs []api.Binding, want ...string) {
	t.Helper()
	if got := check(t, hosts, bs); !slices.Equal(got, want) {
		t.Errorf("P16.2: %s: Wanting(%s, %s) = %s, want %s", what, tell(hosts), tell(bs), tell(got), tell(want))
	}
}

func TestAddresses(t *testing.T) {
	for _, c := range []struct {
		what string
		bs   []api.Binding
		want []int
	}{
		{"nil", nil, nil},
		{"an empty list", []api.Binding{}, nil},
		{"an empty list with room", make([]api.Binding, 0, 9), nil},
		{"one", at(7), []int{7}},
		{"one that is zero", at(0), []int{0}},
		{"two", at(7, 8), []int{7, 8}},
		{"two that fall", at(8, 7), []int{8, 7}},
		{"two of one address", at(7, 7), []int{7}},
		{"beside each other, ahead", at(7, 7, 8), []int{7, 8}},
		{"beside each other, behind", at(8, 7, 7), []int{8, 7}},
		{"apart", at(7, 8, 7), []int{7, 8}},
		{"apart, both", at(8, 7, 8, 7), []int{8, 7}},
		{"far apart", at(5, 4, 3, 2, 1, 5), []int{5, 4, 3, 2, 1}},
		{"often", at(9, 9, 1, 9, 9, 1, 1, 9), []int{9, 1}},
		{"neither rising nor falling", at(3, 1, 2, 1, 3, 0, 2), []int{3, 1, 2, 0}},
		{"zero between", at(1, 0, 2, 0), []int{1, 0, 2}},
		{"below 0", at(-1, 1, -2, -1, 1), []int{-1, 1, -2}},
		{"ends of an int", at(math.MaxInt, math.MinInt, 0, math.MinInt, math.MaxInt), []int{math.MaxInt, math.MinInt, 0}},
		{"beside those ends", at(math.MaxInt, math.MaxInt-1, math.MinInt, math.MinInt+1), []int{math.MaxInt, math.MaxInt - 1, math.MinInt, math.MinInt + 1}},
		{"ends of an address", at(1<<32-1, 0, 1<<32, -1), []int{1<<32 - 1, 0, 1 << 32, -1}},
	} {
		if got := checkAddrs(t, c.bs); !slices.Equal(got, c.want) {
			t.Errorf("P16.1: %s: %v, want %v", c.what, got, c.want)
		}
	}
}

// Of a binding the address alone counts, whatever stands beside it.
func TestOnlyTheAddressCounts(t *testing.T) {
	one := of(nameOf("a"), nameOf("h"), 5)
	for _, change := range []func(*api.Binding){
		func(b *api.Binding) { b.Host = nameOf("g") },
		func(b *api.Binding) { b.Host = nameOf("H") },
		func(b *api.Binding) { b.Host = "" },
		func(b *api.Binding) { b.Cut = root },
		func(b *api.Binding) { b.Cut = "no name" },
		func(b *api.Binding) { b.From = root },
		func(b *api.Binding) { b.From = "" },
		func(b *api.Binding) { b.Until = 0 },
		func(b *api.Binding) { b.Until = math.MinInt },
		func(b *api.Binding) { *b = api.Binding{Addr: b.Addr} },
	} {
		other, further := one, one
		change(&other)
		change(&further)
		further.Addr = 6
		for _, c := range []struct {
			bs   []api.Binding
			want []int
		}{
			{[]api.Binding{other}, []int{5}},
			{[]api.Binding{one, other}, []int{5}},
			{[]api.Binding{other, one}, []int{5}},
			{[]api.Binding{other, further, one}, []int{5, 6}},
			{[]api.Binding{further, one, other}, []int{6, 5}},
		} {
			if got := checkAddrs(t, c.bs); !slices.Equal(got, c.want) {
				t.Errorf("P16.1: Addrs(%s) = %v, want %v", tell(c.bs), got, c.want)
			}
		}
	}
}

// Numbers that would be one if some of their bits, or their sign, were let go are several.
func TestEveryBitOfAnAddress(t *testing.T) {
	all := []int{0, math.MinInt, math.MaxInt}
	for i := range 63 {
		all = append(all, 1<<i, -1<<i, 1<<i+1, -1<<i-1, 1<<53+1<<i)
	}
	slices.Sort(all)
	all = slices.Compact(all)
	rand.New(rand.NewSource(16)).Shuffle(len(all), func(i, j int) { all[i], all[j] = all[j], all[i] })
	for _, bs := range [][]api.Binding{at(all...), at(slices.Concat(all, all)...)} {
		if got := checkAddrs(t, bs); !slices.Equal(got, all) {
			t.Errorf("P16.1: %v, want %v", got, all)
		}
	}
}

// rowsOf gives every row of up to most of those things.
func rowsOf[T any](things []T, most int) [][]T {
	rows := [][]T{nil}
	last := rows
	for range most {
		var longer [][]T
		for _, r := range last {
			for _, x := range things {
				longer = append(longer, append(slices.Clone(r), x))
			}
		}
		rows, last = append(rows, longer...), longer
	}
	return rows
}

func TestEveryShortRowOfAddresses(t *testing.T) {
	for _, addrs := range rowsOf([]int{0, -1, 7, math.MaxInt, 1 << 32}, 6) {
		checkAddrs(t, at(addrs...))
	}
}

func TestManyBindings(t *testing.T) {
	for _, count := range []int{8, 9, 16, 17, 255, 256, 257, 1000, 1 << 17} {
		up, down, mixed := make([]int, count), make([]int, count), make([]int, count)
		for i := range count {
			up[i], down[i], mixed[i] = i, count-1-i, i*7919%count
		}
		for _, addrs := range [][]int{up, down} {
			if got := serve.Addrs(at(addrs...)); !slices.Equal(got, addrs) {
				t.Errorf("P16.1: %d bindings: %s", count, tell(got))
			}
			if got := serve.Addrs(at(slices.Concat(addrs, mixed, addrs)...)); !slices.Equal(got, addrs) {
				t.Errorf("P16.1: each of %d several times: %s", count, tell(got))
			}
		}
		if got := serve.Addrs(at(make([]int, count)...)); !slices.Equal(got, []int{0}) {
			t.Errorf("P16.1: %d of one address: %s", count, tell(got))
		}
	}
}

func TestOrdinaryHosts(t *testing.T) {
	hosts := names("ns1.example", "ns2.example", "ns.elsewhere", "ns.test")
	below := append(by(nameOf("example"), hosts[0]), of(nameOf("example"), hosts[0], 9))
	wantRow(t, "a binding of a host below the cut", hosts, below, hosts[2], hosts[3])
	wantRow(t, "a binding of a host aside", hosts, by(nameOf("example"), hosts[3]), hosts[2])
	wantRow(t, "another cut", hosts, by(nameOf("test"), hosts[1]), hosts[0], hosts[2])
	wantRow(t, "a deeper cut", hosts, by(nameOf("deep", "example"), hosts[1]), hosts[0], hosts[2], hosts[3])
	wantRow(t, "no bindings", hosts, nil, hosts...)
	wantRow(t, "a binding of each", hosts, by(nameOf("cut"), hosts...))
	wantRow(t, "bindings of others", hosts, by(nameOf("cut"), names("ns3.example", "example", "test", "")...), hosts...)
}

func TestNoHostsNoBindings(t *testing.T) {
	hosts, bs := names("h", "g"), by(nameOf("a"), names("q", "h")...)
	for _, none := range [][]string{nil, {}, make([]string, 0, 9), hosts[:0]} {
		wantRow(t, "no hosts", none, bs)
		wantRow(t, "neither", none, nil)
		wantRow(t, "neither, an empty list", none, bs[:0])
	}
	for _, none := range [][]api.Binding{nil, {}, make([]api.Binding, 0, 9), bs[:0]} {
		wantRow(t, "no bindings", hosts, none, hosts...)
		wantRow(t, "no bindings, and the root", names("", "h"), none, names("", "h")...)
		wantRow(t, "no bindings, and a host twice", names("h", "H", "h"), none, names("h", "H", "h")...)
		wantRow(t, "no bindings, and no names", []string{"", "h", root}, none, "", "h", root)
	}
}

// A host that is bound is told from the others by its name alone, in whatever case it is told.
func TestBoundHosts(t *testing.T) {
	n := nameOf("b", "c")
	for _, c := range []struct {
		what  string
		host  string
		bound bool
	}{
		{"itself", nameOf("b", "c"), true},
		{"itself in the other case", nameOf("B", "C"), true},
		{"itself in another case", nameOf("b", "C"), true},
		{"its parent", nameOf("c"), false},
		{"the root", root, false},
		{"its child", nameOf("a", "b", "c"), false},
		{"its first label", nameOf("b"), false},
		{"a name beside it", nameOf("a", "c"), false},
		{"itself turned round", nameOf("c", "b"), false},
		{"a longer label", nameOf("bb", "c"), false},
		{"one label of its bytes", nameOf("b\x01c"), false},
		{"one label of its text", nameOf("b.c"), false},
	} {
		var want []string
		if !c.bound {
			want = []string{c.host}
		}
		cut := nameOf("cut")
		wantRow(t, c.what, []string{c.host}, by(cut, n), want...)
		wantRow(t, c.what+", as host", []string{c.host}, by(cut, great(n)), want...)
		wantRow(t, c.what+", behind others", []string{c.host}, by(cut, nameOf("x"), nameOf("y"), n), want...)
		wantRow(t, c.what+", ahead of others", []string{c.host}, by(cut, n, nameOf("x"), nameOf("y")), want...)
		wantRow(t, c.what+", often", []string{c.host}, by(cut, n, n, great(n), n), want...)
		wantRow(t, c.what+", beside others", []string{nameOf("x"), c.host, nameOf("y")}, by(cut, n), slices.Concat([]string{nameOf("x")}, want, []string{nameOf("y")})...)
	}
}

// What the cut is above is not told, though no binding be of it.
func TestCutAndHosts(t *testing.T) {
	cut := nameOf("b", "c")
	for _, c := range []struct {
		what string
		host string
		held bool
	}{
		{"at the cut", nameOf("b", "c"), true},
		{"at the cut in the other case", nameOf("B", "C"), true},
		{"beneath", nameOf("a", "b", "c"), true},
		{"beneath in the other case", nameOf("A", "B", "C"), true},
		{"far beneath", nameOf("a", "a", "a", "B", "c"), true},
		{"beneath, of its own label", nameOf("b", "b", "c"), true},
		{"its parent", nameOf("c"), false},
		{"its parent in the other case", nameOf("C"), false},
		{"the root", root, false},
		{"aside", nameOf("a", "c"), false},
		{"aside of its parent", nameOf("d"), false},
		{"its first label", nameOf("b"), false},
		{"below its first label", nameOf("c", "b"), false},
		{"under another parent", nameOf("b", "d"), false},
		{"a label that ends as it does", nameOf("xb", "c"), false},
		{"a label that begins as it does", nameOf("bx", "c"), false},
		{"one label of its bytes", nameOf("b\x01c"), false},
		{"a label's end", nameOf("x\x01b\x01c"), false},
		{"it below another one", nameOf("b", "c", "d"), false},
	} {
		var want []string
		if !c.held {
			want = []string{c.host}
		}
		for _, form := range []string{cut, great(cut), nameOf("B", "c")} {
			wantRow(t, c.what, []string{c.host}, by(form, nameOf("q")), want...)
			wantRow(t, c.what+", of several", []string{c.host}, by(form, nameOf("q"), nameOf("r"), nameOf("s")), want...)
			wantRow(t, c.what+", bound", []string{c.host}, by(form, nameOf("q"), c.host))
		}
	}
}

// The root is above every name: there is nothing to be told, but for what is none.
func TestRootAsCut(t *testing.T) {
	long := strings.Repeat("a", 63)
	hosts := append(names("", "h", "H.b", "a.a.a", "\x00", "\xff"), nameOf(long, long, long, long[:61]), strings.Repeat("\x01A", 127)+root)
	for _, h := range hosts {
		wantRow(t, "a name", []string{h}, by(root, nameOf("q")))
	}
	wantRow(t, "all", hosts, by(root, nameOf("q"), root))
	for _, h := range noNames() {
		wantRow(t, "no name", []string{h}, by(root, nameOf("q")), h)
		wantRow(t, "no name among others", []string{root, h, nameOf("h")}, by(root, nameOf("q")), h)
	}
}

// The first binding's cut is the cut of them all.
func TestBindingsOfSeveralCuts(t *testing.T) {
	hosts := names("x.a", "x.b", "x", "a", "b", "")
	a, b, x := of(nameOf("a"), nameOf("q"), 1), of(nameOf("b"), nameOf("q"), 1), of(nameOf("x", "b"), nameOf("q"), 1)
	top, none := of(root, nameOf("q"), 1), of("b", nameOf("q"), 1)
	wantRow(t, "a first", hosts, []api.Binding{a, b}, names("x.b", "x", "b", "")...)
	wantRow(t, "b first", hosts, []api.Binding{b, a}, names("x.a", "x", "a", "")...)
	wantRow(t, "b first of several", hosts, []api.Binding{b, a, a, top}, names("x.a", "x", "a", "")...)
	wantRow(t, "a deeper one first", hosts, []api.Binding{x, b, top}, names("x.a", "x", "a", "b", "")...)
	wantRow(t, "the root first", hosts, []api.Binding{top, a, none})
	wantRow(t, "the root last", hosts, []api.Binding{a, b, top}, names("x.b", "x", "b", "")...)
	wantRow(t, "no name first", hosts, []api.Binding{none, top, a, b}, hosts...)
	wantRow(t, "no name last", hosts, []api.Binding{a, none}, names("x.b", "x", "b", "")...)
	// A host is bound by a binding of whichever cut.
	a.Host = nameOf("x", "b")
	wantRow(t, "bound ahead", hosts, []api.Binding{a, b}, names("x", "b", "")...)
	wantRow(t, "bound behind", hosts, []api.Binding{b, x, a}, names("x.a", "x", "a", "")...)
	x.Host = nameOf("X", "A")
	wantRow(t, "bound between", hosts, []api.Binding{b, x, b}, names("x", "a", "")...)
}

// noNames gives bytes of all kinds that are no name.
func noNames() []string {
	long := strings.Repeat("a", 63)
	return []string{
		"", "a", "A", "com", ".", "com.", "\x01", "\x01a", "\x02a\x00", "\x3f\x00", "\x00\x00", "\x00\x01a\x00", "\x01a\x00\x00", "\x01a\x00b", "\xc0\x0c", "\x01a\xc0\x00", "\xff\x00",
		"\x40" + long + "a\x00", nameOf(long, long, long, long[:62]), strings.Repeat("\x01a", 128) + root, strings.Repeat("\x00", 256), strings.Repeat("\x01a", 1<<16) + root,
	}
}

// A host that is no name is the same as nothing, itself neither, and below nothing: it stays in its place.
func TestHostIsNoName(t *testing.T) {
	good := names("h", "x.a", "g")
	for _, n := range noNames() {
		if name.May(n) {
			t.Fatalf("%q is a name", n)
		}
		hosts := []string{n, good[0], n, good[1], good[2], n}
		for _, bs := range [][]api.Binding{by(nameOf("a"), good[0]), by(nameOf("a"), good[0], n), by(nameOf("a"), n, good[0])} {
			wantRow(t, "among others", hosts, bs, n, n, good[2], n)
		}
		for _, other := range noNames() {
			wantRow(t, "its own binding", []string{n}, by(nameOf("a"), n, other), n)
			wantRow(t, "its own cut", []string{n}, by(n, other), n)
			wantRow(t, "two of them", []string{n, other}, by(other, other, n), n, other)
		}
	}
	for _, cut := range names("a", "com", "a.a") {
		for _, n := range []string{"x" + cut, "\x40" + cut, "\xc0" + cut, "\x00" + cut, cut + "\x00", cut + cut, cut[:len(cut)-1], strings.Repeat("\x01a", 127) + cut} {
			wantRow(t, "its end is the cut", []string{n}, by(cut, cut), n)
		}
	}
}

// A binding whose host is no name is of no host, and one whose cut is none is above no host; their other parts count still.
func TestBindingOfNoName(t *testing.T) {
	hosts := names("h", "x.a", "", "com")
	for _, n := range noNames() {
		wantRow(t, "a host that is none", hosts, by(nameOf("a"), n), hosts[0], hosts[2], hosts[3])
		wantRow(t, "two of them", hosts, by(nameOf("a"), n, n), hosts[0], hosts[2], hosts[3])
		wantRow(t, "one beside a name", hosts, by(nameOf("a"), n, hosts[0]), hosts[2], hosts[3])
		wantRow(t, "a cut that is none", hosts, by(n, nameOf("q")), hosts...)
		wantRow(t, "a cut that is none, of a host", hosts, by(n, hosts[3], hosts[1]), hosts[0], hosts[2])
		wantRow(t, "both", hosts, by(n, n), hosts...)
	}
}

func TestHostsThatAreGivenTwice(t *testing.T) {
	cut := nameOf("a")
	wantRow(t, "beside each other", names("h", "h"), by(cut, nameOf("q")), names("h", "h")...)
	wantRow(t, "in both cases", names("h", "H", "h"), by(cut, nameOf("q")), names("h", "H", "h")...)
	wantRow(t, "apart", names("h", "g", "h", "G"), by(cut, nameOf("g")), names("h", "h")...)
	wantRow(t, "bound", names("h", "H", "h"), by(cut, nameOf("h")))
	wantRow(t, "below the cut", names("x.a", "X.a", "g", "x.A", "a"), by(cut, nameOf("h")), names("g")...)
	wantRow(t, "often", slices.Repeat(names("h", "g"), 50), by(cut, nameOf("h")), slices.Repeat(names("g"), 50)...)
}

// Hosts are told as they are handed in, in their row, whatever cases the bindings have.
func TestRowAndCase(t *testing.T) {
	hosts := names("z", "Y.b", "x", "WW.ww", "a", "B", "aa.b", "cut", "x.CUT", "c")
	for _, form := range []func(string) string{rel.Fold, great} {
		bs := by(form(nameOf("cut")), form(nameOf("x")), form(nameOf("b")))
		wantRow(t, "falling and rising", hosts, bs, names("z", "Y.b", "WW.ww", "a", "aa.b", "c")...)
		back := slices.Clone(hosts)
		slices.Reverse(back)
		wantRow(t, "turned round", back, bs, names("c", "aa.b", "a", "WW.ww", "Y.b", "z")...)
	}
}

// Of a binding the cut and the host count; its address, From and Until do not.
func TestOtherFieldsOfBindings(t *testing.T) {
	hosts := names("h", "x.a", "g", "from", "")
	for _, n := range []int{0, 1, -1, 1 << 32, math.MinInt, math.MaxInt} {
		for _, from := range []string{"", root, "no name", nameOf("a"), nameOf("g"), nameOf("from")} {
			b := api.Binding{Cut: nameOf("a"), Host: nameOf("h"), Addr: n, From: from, Until: n}
			wantRow(t, "alone", hosts, []api.Binding{b}, names("g", "from", "")...)
			wantRow(t, "often", hosts, []api.Binding{b, b, b}, names("g", "from", "")...)
		}
	}
}

// Of each two bytes: letters in both cases are one, and no others are.
func TestEachPairOfBytes(t *testing.T) {
	for a := range 256 {
		n := nameOf("x"+string([]byte{byte(a)}), "y")
		var hosts, below []string
		for b := range 256 {
			label := "x" + string([]byte{byte(b)})
			hosts, below = append(hosts, nameOf(label, "y")), append(below, nameOf("z", label, "y"))
		}
		want := 255
		if c := byte(a) | 32; c >= 'a' && c <= 'z' && a < 128 {
			want = 254
		}
		bound, under := check(t, hosts, by(nameOf("q"), n)), check(t, below, by(n, nameOf("q")))
		if len(bound) != want || len(under) != want {
			t.Fatalf("P16.2: the byte %d: %d and %d hosts", a, len(bound), len(under))
		}
	}
}

// near gives names that are near each other, and bytes that are none.
func near() []string {
	return append(names("", "a", "A", "b.a", "B.A", "b", "c.b.a", "ab"), "", "\x01a", "b\x01a\x00")
}

// Every row of up to two hosts with every row of up to two bindings.
func TestEveryShortRow(t *testing.T) {
	var bindings []api.Binding
	for _, cut := range near() {
		for _, host := range near() {
			bindings = append(bindings, of(cut, host, 1))
		}
	}
	rows := rowsOf(near(), 2)
	for _, bs := range rowsOf(bindings, 1) {
		for _, hosts := range rows {
			check(t, hosts, bs)
		}
	}
	all := append(near(), near()...)
	for _, bs := range rowsOf(bindings, 2) {
		check(t, all, bs)
	}
}

// someName gives a name of few labels, now and then bytes that are none.
func someName(r *rand.Rand) string {
	if r.Intn(12) == 0 {
		return []string{"", "a", "\x01", "\x00\x00", "\x00\x01a\x00", "\x01a\x00\x00", "\x02a\x00", "\xc0\x00", "\x40\x01b\x00"}[r.Intn(9)]
	}
	var labels []string
	for range r.Intn(4) {
		labels = append(labels, []string{"a", "A", "b", "ab", "\x00", "com"}[r.Intn(6)])
	}
	return nameOf(labels...)
}

// some gives up to most hosts and as many bindings, mostly of one cut.
func some(r *rand.Rand, most int) ([]string, []api.Binding) {
	hosts, bs := make([]string, r.Intn(most+1)), make([]api.Binding, r.Intn(most+1))
	for i := range hosts {
		hosts[i] = someName(r)
	}
	cut := someName(r)
	for i := range bs {
		if r.Intn(9) == 0 {
			cut = someName(r)
		}
		bs[i] = api.Binding{Cut: cut, Host: someName(r), Addr: r.Intn(9) - 2, From: someName(r), Until: r.Intn(9)}
	}
	return hosts, bs
}

func TestSomeRows(t *testing.T) {
	r := rand.New(rand.NewSource(161))
	told, left, once, again := 0, 0, 0, 0
	for range 30000 {
		hosts, bs := some(r, 9)
		wanting, addrs := check(t, hosts, bs), checkAddrs(t, bs)
		told, left = told+len(wanting), left+len(hosts)-len(wanting)
		once, again = once+len(addrs), again+len(bs)-len(addrs)
	}
	if told < 30000 || left < 30000 || once < 30000 || again < 20000 {
		t.Errorf("not enough of each kind: %d, %d, %d, %d", told, left, once, again)
	}
}

// What package cuts tells of a cut says whom to ask, and of whom to ask for an address ahead.
func TestThroughCuts(t *testing.T) {
	hosts := names("ns.Example", "ns.test", "NS.elsewhere")
	c, e := cuts.New([]api.Hint{{Host: nameOf("r"), Addr: 1}, {Host: nameOf("s"), Addr: 2}, {Host: nameOf("s"), Addr: 1}})
	if e != api.OK {
		t.Fatalf("New: %d", e)
	}
	cut := nameOf("example")
	if e = c.Put(api.Delegation{Cut: cut, Hosts: hosts, Ttl: 60}, root, 10); e != api.OK {
		t.Fatalf("Put: %d", e)
	}
	holds := func(cut string, addrs []int, wanting ...string) {
		t.Helper()
		hs, bs := c.Hosts(cut, 20), c.Bindings(cut, 20)
		if got := checkAddrs(t, bs); !slices.Equal(got, addrs) {
			t.Errorf("P16.1: %v, want %v", got, addrs)
		}
		wantRow(t, "a cut", hs, bs, wanting...)
	}
	holds(root, []int{1, 2})
	holds(cut, nil, rel.Fold(hosts[0]), hosts[1], rel.Fold(hosts[2]))
	c.Learn(hosts[1], 7, 40, 15)
	holds(cut, []int{7}, rel.Fold(hosts[2]))
	c.Learn(hosts[2], 7, 40, 16)
	c.Learn(hosts[2], 8, 40, 16)
	holds(cut, []int{7, 8})
	holds(nameOf("none"), nil)
}

// What costs most: many hosts and bindings of the longest names, that differ at their last byte or not at all, and names far too long.
func TestItEndsSoon(t *testing.T) {
	began := time.Now()
	const many = 1 << 17
	ones := strings.Repeat("\x01A", 125)
	hosts, bs := make([]string, many), make([]api.Binding, many)
	for i := range many {
		hosts[i] = "\x03" + string([]byte{byte(i >> 16), byte(i >> 8), byte(i)}) + ones[2:] + root
		bs[i] = of(ones+"\x01b"+root, hosts[i&^1], i/2)
	}
	if got := serve.Wanting(hosts, bs); len(got) != many/2 {
		t.Errorf("P16.2: %d hosts", len(got))
	}
	if got := serve.Addrs(bs); len(got) != many/2 {
		t.Errorf("P16.1: %d addresses", len(got))
	}
	bs[0].Cut = ones[2:] + root
	if got := serve.Wanting(hosts, bs); len(got) != 0 {
		t.Errorf("P16.2: %d hosts", len(got))
	}
	long := strings.Repeat("\x01a", 1<<20) + root
	for range 200 {
		if got := serve.Wanting([]string{long, hosts[1]}, by(long, long, hosts[0])); len(got) != 2 {
			t.Fatalf("P16.2: no name: %d hosts", len(got))
		}
	}
	if took := time.Since(began); took > 20*time.Second {
		t.Errorf("it took %v", took)
	}
}

func FuzzServe(f *testing.F) {
	f.Add("\x01h\x00|\x01g\x00|\x03x.a", "\x01a\x00|\x01h\x00|\x01a\x00|\x01G\x00")
	f.Add("\x01x\x01a\x00||\x00", "\x01A\x00|\x01q\x00")
	f.Add("", "")
	f.Fuzz(func(t *testing.T, hs, pairs string) {
		parts := strings.Split(pairs, "|")
		var bs []api.Binding
		for i := 0; i+1 < len(parts); i += 2 {
			bs = append(bs, of(parts[i], parts[i+1], len(parts[i])))
		}
		check(t, strings.Split(hs, "|"), bs)
		checkAddrs(t, bs)
	})
}
