package serve_test

import (
	"math/rand"
	"slices"
	"sync"
	"testing"
	"unsafe"

	"wimple/api"
	"wimple/serve"
)

// roomy gives lists of their own that have room behind them, in which stands what would be told.
func roomy(hosts []string, bs []api.Binding) ([]string, []api.Binding) {
	return slices.Concat(hosts, near())[:len(hosts)], slices.Concat(bs, at(91, 92, 93))[:len(bs)]
}

// What is handed in is as it was, and so is the room behind, though the lists be pieces of longer ones.
func TestArgumentsAreNotChanged(t *testing.T) {
	r := rand.New(rand.NewSource(162))
	for range 5000 {
		hosts, bs := roomy(some(r, 6))
		check(t, hosts, bs)
		checkAddrs(t, bs)
	}
	all, bindings := slices.Repeat(near(), 2), slices.Concat(by(nameOf("a"), near()...), at(1, 1, 2, 1))
	hostsWere, were := slices.Clone(all), slices.Clone(bindings)
	for from := range all {
		for to := from; to <= len(all) && to <= len(bindings); to++ {
			check(t, all[from:to], bindings[:to])
			check(t, all[:to], bindings[from:to])
			checkAddrs(t, bindings[from:to])
		}
	}
	if !slices.Equal(all, hostsWere) || !slices.Equal(bindings, were) {
		t.Errorf("R4: %s, %s", tell(all), tell(bindings))
	}
}

// Writing over what is answered, and the room behind it, leaves what was handed in and another answer as they were, and the other way round.
func TestListsOfTheirOwn(t *testing.T) {
	r := rand.New(rand.NewSource(163))
	for range 5000 {
		hosts, bs := roomy(some(r, 6))
		hostsWere, were := slices.Clone(hosts), slices.Clone(bs)
		want, wantInts := wantWanting(hosts, bs), wantAddrs(bs)
		one, two, three := serve.Wanting(hosts, bs), serve.Wanting(hosts, bs), serve.Addrs(bs)
		four := serve.Addrs(bs)
		clear(one[:cap(one)])
		clear(three[:cap(three)])
		_, _ = append(one, "over"), append(three, -9)
		if !slices.Equal(hosts, hostsWere) || !slices.Equal(bs, were) || !slices.Equal(two, want) || !slices.Equal(four, wantInts) {
			t.Fatalf("R4: writing over an answer: %s, %s, %s, %v", tell(hosts), tell(bs), tell(two), four)
		}
		again := serve.Wanting(two, nil)
		clear(hosts[:cap(hosts)])
		clear(bs[:cap(bs)])
		if !slices.Equal(two, want) || !slices.Equal(four, wantInts) {
			t.Fatalf("R4: writing over what was handed in: %s, %v", tell(two), four)
		}
		clear(two[:cap(two)])
		if !slices.Equal(again, want) {
			t.Fatalf("R4: writing over what was told and handed in again: %s", tell(again))
		}
	}
}

// lent gives n in memory that may be written over.
func lent(n string) ([]byte, string) {
	b := []byte(n)
	return b, unsafe.String(unsafe.SliceData(b), len(b))
}

// A name that is told is in memory of its own: what becomes of the one that was handed in, or of another answer's, doesn't reach it.
func TestNamesOfTheirOwn(t *testing.T) {
	wanted := append(names("ns.elsewhere", "NS.Test", "ns.elsewhere"), "no name", nameOf("cut")[1:])
	for _, bs := range [][]api.Binding{nil, by(nameOf("cut"), nameOf("q")), by("no name", nameOf("r"))} {
		var pieces [][]byte
		var hosts []string
		for _, n := range wanted {
			b, s := lent(n)
			pieces, hosts = append(pieces, b), append(hosts, s)
		}
		one, two := serve.Wanting(hosts, bs), serve.Wanting(hosts, bs)
		again := serve.Wanting(two, bs)
		seen := map[*byte]int{}
		for _, n := range slices.Concat(hosts, one, two, again) {
			seen[unsafe.StringData(n)]++
		}
		if len(seen) != 4*len(wanted) {
			t.Errorf("R4: %d names lie in %d places", 4*len(wanted), len(seen))
		}
		for _, b := range pieces {
			clear(b)
		}
		if !slices.Equal(one, wanted) || !slices.Equal(two, wanted) || !slices.Equal(again, wanted) {
			t.Errorf("R4: writing over names that were handed in: %s, %s, %s", tell(one), tell(two), tell(again))
		}
	}
}

// Names are not written to, though they be folded to be held against each other.
func TestNamesAreNotWrittenTo(t *testing.T) {
	texts := []string{nameOf("Cut", "A"), nameOf("NS", "Cut", "A"), nameOf("Q", "b"), nameOf("From")}
	var pieces [][]byte
	var shown []string
	for _, n := range texts {
		b, s := lent(n)
		pieces, shown = append(pieces, b), append(shown, s)
	}
	bs := []api.Binding{{Cut: shown[0], Host: shown[2], From: shown[3]}, {Cut: shown[3], Host: shown[1], From: shown[0]}}
	for range 3 {
		serve.Wanting(shown, bs)
		serve.Wanting(shown, nil)
		serve.Addrs(bs)
		for i, b := range pieces {
			if string(b) != texts[i] {
				t.Fatalf("R4: %q was changed to %q", texts[i], b)
			}
		}
	}
}

// What is asked hangs on nothing that was asked before.
func TestNothingIsKept(t *testing.T) {
	hosts, bs := names("h", "x.a", "g"), by(nameOf("a"), nameOf("h"))
	for range 3 {
		wantRow(t, "with bindings", hosts, bs, hosts[2])
		wantRow(t, "with others", hosts, by(nameOf("b"), nameOf("g")), hosts[0], hosts[1])
		wantRow(t, "without", hosts, nil, hosts...)
		for _, addrs := range [][]int{{4, 5}, {5, 4}, nil, {5}} {
			if got := serve.Addrs(at(addrs...)); !slices.Equal(got, addrs) {
				t.Errorf("R5: %v, want %v", got, addrs)
			}
		}
	}
}

func TestSeveralGoroutines(t *testing.T) {
	hosts, bs := some(rand.New(rand.NewSource(164)), 40)
	want, addrs := wantWanting(hosts, bs), wantAddrs(bs)
	var all sync.WaitGroup
	for g := range 8 {
		all.Go(func() {
			r := rand.New(rand.NewSource(int64(g)))
			for range 1000 {
				hs, own := some(r, 9)
				if !slices.Equal(serve.Wanting(hs, own), wantWanting(hs, own)) || !slices.Equal(serve.Addrs(own), wantAddrs(own)) {
					t.Errorf("R5: %s, %s", tell(hs), tell(own))
					return
				}
				if !slices.Equal(serve.Wanting(hosts, bs), want) || !slices.Equal(serve.Addrs(bs), addrs) {
					t.Error("R5: lists that several look at")
					return
				}
			}
		})
	}
	all.Wait()
}
