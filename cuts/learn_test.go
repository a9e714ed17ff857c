package cuts_test

import (
	"math"
	"slices"
	"testing"

	"wimple/api"
)

// known gives a pair with the cuts a (hosts h and k, from the root) and b.a (host h, from a), of 100 ticks from 10 on.
func known(t *testing.T) *pair {
	t.Helper()
	p := plain(t)
	p.holds(t, with(telling(nameOf("a"), 100, hosts("h", "k")...), glue(nameOf("h"), 1, 50)), root, 10)
	p.holds(t, telling(nameOf("b", "a"), 100, nameOf("H")), nameOf("A"), 10)
	return p
}

func TestWhoLearns(t *testing.T) {
	a, b := nameOf("a"), nameOf("b", "a")
	old := bound(a, nameOf("h"), 1, root, 60)
	for _, learn := range []func(n string) string{folded, great} {
		p := known(t)
		p.learn(t, learn(nameOf("k")), 7, 40, 20)
		p.has(t, "P15.3: one cut has it", a, 20, hosts("h", "k"), old, bound(a, nameOf("k"), 7, root, 40))
		p.has(t, "P15.3: one cut has it", b, 20, hosts("h"))

		p = known(t)
		p.learn(t, learn(nameOf("h")), 7, 40, 20)
		p.has(t, "P15.3: both have it", a, 20, hosts("h", "k"), old, bound(a, nameOf("h"), 7, root, 40))
		p.has(t, "P15.3: both have it", b, 20, hosts("h"), bound(b, nameOf("h"), 7, a, 40))
		p.has(t, "P15.3: both have it", b, 40, hosts("h"))

		for _, none := range []string{nameOf("r"), nameOf("z"), a, b, nameOf("hh"), nameOf("h", "h"), nameOf("x", "h"), nameOf("h", "a"), root} {
			p = known(t)
			p.learn(t, learn(none), 7, 40, 20)
			p.has(t, "P15.3: none has it", a, 20, hosts("h", "k"), old)
			p.has(t, "P15.3: none has it", b, 20, hosts("h"))
			p.has(t, "P15.3: the root's", root, 20, hosts("r"), bound(root, nameOf("r"), 1, root, 0))
		}
	}
}

func TestAddressesThatAreLearned(t *testing.T) {
	b := nameOf("b", "a")
	for _, addr := range oddAddrs() {
		p := known(t)
		p.learn(t, nameOf("h"), addr, 40, 20)
		var want []api.Binding
		if addr >= 0 && addr <= most {
			want = append(want, bound(b, nameOf("h"), addr, nameOf("a"), 40))
		}
		p.has(t, "P15.3", b, 20, hosts("h"), want...)
		p.look(t, nameOf("a"), 20)
	}
}

func TestTicksThatAreLearned(t *testing.T) {
	b := nameOf("b", "a")
	for _, now := range []int{math.MinInt, -last, -1, 0, 10, 59, 60, 108, 109, 110, 111, last, math.MaxInt} {
		for _, until := range []int{math.MinInt, -1, 0, 1, now, 60, 109, 110, 111, 86511, last, last + 1, math.MaxInt} {
			for d := -2; d <= 2; d++ {
				// Numbers that are turned round at the ends of an int are as good as others.
				end := until + d
				p := known(t)
				p.learn(t, nameOf("h"), 7, end, now)
				is := now < 110 && now < end
				var want []api.Binding
				if is {
					want = append(want, bound(b, nameOf("h"), 7, nameOf("a"), end))
				}
				if now < 110 {
					p.has(t, "P15.3", b, now, hosts("h"), want...)
				}
				p.all(t, []string{nameOf("a"), b}, end, end-1, 109, 110, now, 10)
			}
		}
	}
}

// A binding of the host and address keeps another one away as long as it is live; then one comes behind all others.
func TestWhatIsKnownAlready(t *testing.T) {
	a, b := nameOf("a"), nameOf("b", "a")
	h, k := nameOf("h"), nameOf("k")
	p := known(t)
	old := bound(a, h, 1, root, 60)
	p.learn(t, great(h), 1, 90, 59)
	p.has(t, "P15.3: glue is known", a, 59, hosts("h", "k"), old)
	p.has(t, "P15.3: to the other cut it is new", b, 59, hosts("h"), bound(b, h, 1, a, 90))
	p.learn(t, k, 1, 70, 59)
	p.learn(t, h, 2, 80, 59)
	p.has(t, "P15.3: another host, another address", a, 59, hosts("h", "k"), old, bound(a, k, 1, root, 70), bound(a, h, 2, root, 80))
	p.learn(t, h, 1, 95, 60)
	p.has(t, "P15.3: no longer known", a, 60, hosts("h", "k"), bound(a, k, 1, root, 70), bound(a, h, 2, root, 80), bound(a, h, 1, root, 95))
	p.has(t, "P15.3: still known", b, 60, hosts("h"), bound(b, h, 1, a, 90), bound(b, h, 2, a, 80))
	p.learn(t, k, 1, 99, 69)
	p.learn(t, h, 1, 99, 94)
	p.learn(t, h, 2, 85, 80)
	p.has(t, "P15.3: a shorter life is a life", a, 80, hosts("h", "k"), bound(a, h, 1, root, 95), bound(a, h, 2, root, 85))
	p.all(t, []string{a, b}, 10, 59, 60, 69, 70, 79, 80, 85, 94, 95, 99, 109, 110)
}

// MaxAddrs twice are as many live ones as there may be: of all hosts of the cut, glue and learned ones.
func TestTwiceMaxAddrs(t *testing.T) {
	a := nameOf("a")
	for glued := range 9 {
		p := plain(t)
		var bs, want []api.Binding
		for i := range glued {
			bs = append(bs, glue(hosts("h", "k")[i%2], i, 30))
			want = append(want, bound(a, hosts("h", "k")[i%2], i, root, 40))
		}
		p.holds(t, with(telling(a, 100, hosts("h", "k")...), bs...), root, 10)
		for i := glued; i < 30; i++ {
			p.learn(t, hosts("h", "k")[i%2], i, 50+i, 20)
			if i < 16 {
				want = append(want, bound(a, hosts("h", "k")[i%2], i, root, 50+i))
			}
			p.has(t, "P15.3: sixteen at most", a, 20, hosts("h", "k"), want...)
		}
		// The glue is no longer live at 40: so many may come, behind the others.
		want = want[glued:]
		for i := range 30 {
			p.learn(t, hosts("h", "k")[i%2], 100+i, 90, 40)
			if len(want) < 16 {
				want = append(want, bound(a, hosts("h", "k")[i%2], 100+i, root, 90))
			}
			p.has(t, "P15.3: room by what is not live", a, 40, hosts("h", "k"), want...)
		}
		p.all(t, []string{a}, 10, 39, 40, 66, 70, 89, 90, 109, 110)
	}
}

// A full cut learns nothing; another one of the same host does.
func TestFullCutBesideAnother(t *testing.T) {
	a, b := nameOf("a"), nameOf("b", "a")
	p := known(t)
	for i := range 15 {
		p.learn(t, nameOf("k"), 100+i, 90, 20)
	}
	p.learn(t, nameOf("h"), 7, 90, 20)
	if _, bs := p.look(t, a, 20); len(bs) != 16 || slices.Contains(bs, bound(a, nameOf("h"), 7, root, 90)) {
		t.Errorf("P15.3: %s", tell(bs))
	}
	p.has(t, "P15.3: the other one", b, 20, hosts("h"), bound(b, nameOf("h"), 7, a, 90))
}

// A cut that is not live learns nothing, though it is still held.
func TestCutsThatAreNotLiveLearnNothing(t *testing.T) {
	a, h := nameOf("a"), nameOf("h")
	p := plain(t)
	p.holds(t, telling(a, 10, h), root, 10)
	for i, now := range []int{18, 19, 20, 21, 500, last, math.MaxInt - 1} {
		p.learn(t, h, 100+i, math.MaxInt, now)
	}
	p.has(t, "P15.3", a, 19, hosts("h"), bound(a, h, 100, root, math.MaxInt), bound(a, h, 101, root, math.MaxInt))
}

// What is learned is told of at each tick ahead of its Until, be it an earlier one than that at which it was learned, and so is what was known ahead of it.
func TestEarlierTicks(t *testing.T) {
	a, h := nameOf("a"), nameOf("h")
	p := plain(t)
	p.holds(t, with(telling(a, 100, h), glue(h, 1, 5)), root, 10)
	p.learn(t, h, 2, 20, 16)
	p.learn(t, h, 1, 40, 30)
	one, two, three := bound(a, h, 1, root, 15), bound(a, h, 2, root, 20), bound(a, h, 1, root, 40)
	p.has(t, "P15.3", a, 39, hosts("h"), three)
	p.has(t, "P15.3", a, 20, hosts("h"), three)
	p.has(t, "P15.3", a, 19, hosts("h"), two, three)
	p.has(t, "P15.3", a, 15, hosts("h"), two, three)
	p.has(t, "P15.3", a, 14, hosts("h"), one, two, three)
	p.has(t, "P15.3", a, math.MinInt, hosts("h"), one, two, three)
	for i := range 20 {
		p.learn(t, h, 100+i, 90, 41)
		p.learn(t, h, 200+i, 90, 14)
	}
	p.all(t, []string{a}, math.MinInt, 14, 15, 19, 20, 39, 40, 41, 89, 90)
}

// A learned binding's From is told by the Put that made the cut: folded, and the newest one's.
func TestFromOfWhatIsLearned(t *testing.T) {
	cut, h := nameOf("c", "b", "a"), nameOf("h")
	for _, from := range []string{root, nameOf("a"), nameOf("A"), nameOf("b", "a"), nameOf("B", "a")} {
		p := plain(t)
		p.holds(t, telling(cut, 100, h), from, 10)
		p.learn(t, h, 5, 50, 20)
		p.has(t, "P15.3", cut, 20, hosts("h"), bound(cut, h, 5, folded(from), 50))
		for _, again := range []string{root, nameOf("A"), nameOf("b", "A")} {
			p.holds(t, telling(cut, 100, h), again, 30)
			p.learn(t, h, 6, 50, 30)
			p.has(t, "P15.3: told again", cut, 30, hosts("h"), bound(cut, h, 6, folded(again), 50))
		}
	}
}

func TestDeepest(t *testing.T) {
	p := plain(t)
	com, b, d := nameOf("com"), nameOf("b", "com"), nameOf("d", "c", "b", "com")
	p.isDeepest(t, "no cut yet", d, 10, root)
	p.holds(t, telling(great(com), 30, nameOf("h")), root, 10)
	p.holds(t, telling(great(b), 20, nameOf("h")), com, 10)
	p.holds(t, telling(d, 10, nameOf("h")), com, 10)
	for _, x := range []struct {
		what string
		n    string
		now  int
		want string
	}{
		{"at a cut", com, 10, com},
		{"at a lower cut", b, 10, b},
		{"at the lowest", d, 10, d},
		{"beneath the lowest", nameOf("x", "y", "d", "c", "b", "com"), 10, d},
		{"between two", nameOf("c", "b", "com"), 10, b},
		{"between two, beneath", nameOf("x", "c", "b", "com"), 10, b},
		{"aside of the lower ones", nameOf("x", "com"), 10, com},
		{"a label that ends alike", nameOf("bb", "com"), 10, com},
		{"a label that begins alike", nameOf("ba", "com"), 10, com},
		{"one label of a dot's bytes", nameOf("b.com"), 10, root},
		{"one label of a name's bytes", nameOf("b\x03com"), 10, root},
		{"aside of all", nameOf("net"), 10, root},
		{"aside of all, with a cut's labels ahead", nameOf("b", "com", "net"), 10, root},
		{"the root", root, 10, root},
		{"no name", "", 10, root},
		{"no name, with a cut behind", "\x05x" + com, 10, root},
		{"a cut with a byte behind", com + "\x00", 10, root},
		{"the last tick of the lowest", d, 19, d},
		{"the first without it", d, 20, b},
		{"the last tick of the next", d, 29, b},
		{"the first without it", d, 30, com},
		{"the last tick of the highest", d, 39, com},
		{"the first without it", d, 40, root},
		{"before they came", d, math.MinInt, d},
		{"behind all", d, math.MaxInt, root},
	} {
		p.isDeepest(t, x.what, x.n, x.now, x.want)
		p.isDeepest(t, x.what+", in great letters", great(x.n), x.now, x.want)
	}
}

// Each cut of the longest name, and each name above it.
func TestDeepestOfTheLongest(t *testing.T) {
	var names []string
	for n := root; len(n) <= 255; n = "\x01a" + n {
		names = append(names, n)
	}
	for at, cut := range names[1:] {
		p := plain(t)
		p.holds(t, telling(cut, 9, nameOf("h")), root, 10)
		for i, n := range names {
			want := root
			if i > at {
				want = cut
			}
			if got := p.c.Deepest(great(n), 10); got != want {
				t.Fatalf("P15.3: Deepest(%s) = %s", tell(n), tell(got))
			}
		}
	}
	p := plain(t)
	for _, cut := range names[1:] {
		p.put(t, telling(cut, 9, nameOf("h")), root, 10)
	}
	for _, n := range names {
		if got := p.c.Deepest(great(n), 10); got != n {
			t.Fatalf("P15.3: all are cuts: Deepest(%s) = %s", tell(n), tell(got))
		}
	}
}

func TestHostsAndBindings(t *testing.T) {
	a, h, k := nameOf("a"), nameOf("h"), nameOf("k")
	p := plain(t)
	p.holds(t, with(telling(a, 10, k, h), glue(k, 9, 3), glue(h, 8, 20), glue(k, 7, 5)), root, 10)
	one, two, three := bound(a, k, 9, root, 13), bound(a, h, 8, root, 30), bound(a, k, 7, root, 15)
	for _, cut := range []string{a, great(a)} {
		p.has(t, "live", cut, 12, hosts("k", "h"), one, two, three)
		p.has(t, "one is not", cut, 13, hosts("k", "h"), two, three)
		p.has(t, "two are not", cut, 15, hosts("k", "h"), two)
		p.has(t, "the last tick", cut, 19, hosts("k", "h"), two)
		p.has(t, "not live, though a binding is", cut, 20, nil)
		p.has(t, "at a tick ahead", cut, -5, hosts("k", "h"), one, two, three)
	}
	for _, none := range append(noNames(), nameOf("b"), nameOf("a", "a"), nameOf("aa"), nameOf("b", "a"), h, k, nameOf("r")) {
		p.has(t, "no cut", none, 12, nil)
	}
}
