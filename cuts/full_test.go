package cuts_test

import (
	"fmt"
	"math/rand"
	"slices"
	"testing"

	"wimple/api"
)

// numbered gives the name of the cut number i; their canonical order is that of their numbers.
func numbered(i int) string {
	return nameOf(fmt.Sprintf("c%05d", i))
}

// full gives a pair with 128 cuts that were put at tick 10 in some row, each of the Ttl that ttl gives for its number.
func full(t *testing.T, seed int64, ttl func(i int) int) *pair {
	t.Helper()
	p := plain(t)
	for _, i := range rand.New(rand.NewSource(seed)).Perm(128) {
		if e := p.put(t, telling(numbered(i), ttl(i), nameOf("h")), root, 10); e != api.OK {
			t.Fatalf("P15.2: %d", e)
		}
	}
	return p
}

// live gives the numbers of those of the first n cuts that are there at now.
func (p *pair) live(t *testing.T, n int, now int) []int {
	t.Helper()
	var out []int
	for i := range n {
		if p.deepest(t, numbered(i), now) != root {
			out = append(out, i)
		}
	}
	return out
}

// without gives the numbers below n but some.
func without(n int, some ...int) []int {
	var out []int
	for i := range n {
		if !slices.Contains(some, i) {
			out = append(out, i)
		}
	}
	return out
}

func (p *pair) areLive(t *testing.T, what string, now int, want []int) {
	t.Helper()
	if got := p.live(t, 200, now); !slices.Equal(got, want) {
		t.Errorf("P15.2: %s: at %d there are %v, want %v", what, now, got, want)
	}
}

func TestMaxCutsAreHeld(t *testing.T) {
	p := full(t, 1, func(i int) int { return 50 })
	p.areLive(t, "all of them", 10, without(128))
	p.areLive(t, "all of them", 59, without(128))
	p.areLive(t, "none", 60, nil)
	p.has(t, "P15.1: the root is not counted", root, 10, hosts("r"), bound(root, nameOf("r"), 1, root, 0))
}

// Where there is no room, the one of the least Until goes, be it even sooner gone than the new one.
func TestTheLeastUntilGoes(t *testing.T) {
	for _, gone := range []int{0, 1, 63, 126, 127} {
		for _, ttl := range []int{1, 19, 20, 21, 500} {
			p := full(t, int64(gone), func(i int) int {
				if i == gone {
					return 20
				}
				return 21 + i*37%60
			})
			p.holds(t, telling(numbered(150), ttl, nameOf("k")), root, 10)
			p.areLive(t, "one more", 10, append(without(128, gone), 150))
			p.has(t, "P15.2: what is gone", numbered(gone), 10, nil)
		}
	}
	// Then the next one, and so on.
	p := full(t, 7, func(i int) int { return 100 + (i*37+5)%128 })
	var gone []int
	for k := range 30 {
		gone = append(gone, slices.IndexFunc(without(128), func(i int) bool { return (i*37+5)%128 == k }))
		p.holds(t, telling(numbered(150+k), 900, nameOf("k")), root, 11)
		p.areLive(t, "one by one", 11, append(without(128, gone...), without(200, without(150)...)[:k+1]...))
	}
}

// Of several of the least Until the first by Compare goes, in whatever row they came.
func TestOfSeveralTheFirstGoes(t *testing.T) {
	for seed := range int64(20) {
		least := []int{3 + int(seed), 40, 77, 127}
		p := full(t, seed, func(i int) int {
			if slices.Contains(least, i) {
				return 20
			}
			return 30
		})
		for k := range least {
			p.holds(t, telling(numbered(150+k), 60, nameOf("k")), root, 10)
			p.areLive(t, "of several", 10, append(without(128, least[:k+1]...), without(200, without(150)...)[:k+1]...))
		}
		p.holds(t, telling(numbered(160), 60, nameOf("k")), root, 10)
		p.isDeepest(t, "then the next ones", numbered(0), 10, root)
	}
}

// The canonical order is neither that of bytes nor that of lengths.
func TestTheFirstByCompare(t *testing.T) {
	names := rising()[1:]
	for seed := range int64(10) {
		r := rand.New(rand.NewSource(seed))
		p := plain(t)
		for i := range 128 - len(names) {
			p.holds(t, telling(nameOf(fmt.Sprint("filled", i)), 500, nameOf("h")), root, 10)
		}
		for _, i := range r.Perm(len(names)) {
			cut := names[i]
			if r.Intn(2) == 0 {
				cut = great(cut)
			}
			p.holds(t, telling(cut, 100, nameOf("h")), root, 10)
		}
		for i, n := range names {
			p.has(t, "P15.2: not yet gone", n, 10, hosts("h"))
			p.holds(t, telling(nameOf(fmt.Sprint("more", i)), 500, nameOf("h")), root, 10)
			p.has(t, "P15.2: the first by Compare", n, 10, nil)
		}
	}
}

// What is not live goes first: where that makes room, nothing else goes.
func TestRoomByWhatIsNotLive(t *testing.T) {
	for _, old := range []int{1, 2, 50, 127, 128} {
		p := full(t, int64(old), func(i int) int {
			if i < old {
				return 10
			}
			return 11 + i%3
		})
		p.holds(t, telling(numbered(150), 60, nameOf("k")), root, 20)
		p.areLive(t, "at the tick of Put", 20, append(without(128, without(old)...), 150))
		// A Put takes them away for good: an earlier tick does not bring them back.
		p.areLive(t, "at an earlier tick", 10, append(without(128, without(old)...), 150))
	}
}

// A Put takes away what is not live also where there is room; other calls do not.
func TestOnlyPutTakesAway(t *testing.T) {
	p := plain(t)
	p.holds(t, with(telling(numbered(1), 10, nameOf("h")), glue(nameOf("h"), 5, 4)), root, 10)
	p.holds(t, telling(numbered(2), 11, nameOf("h")), root, 10)
	p.all(t, rising(), 19, 20, 500, last)
	p.learn(t, nameOf("h"), 6, 900, 20)
	p.learn(t, nameOf("h"), 7, 900, 800)
	p.areLive(t, "still there", 19, []int{1, 2})
	p.has(t, "P15.3: an earlier tick", numbered(1), 13, hosts("h"), bound(numbered(1), nameOf("h"), 5, root, 14))
	p.has(t, "P15.3: an earlier tick", numbered(2), 13, hosts("h"), bound(numbered(2), nameOf("h"), 6, root, 900))
	if e := p.put(t, telling(numbered(3), 10), root, 20); e != api.ErrCutsForm {
		t.Errorf("P15.2: %d", e)
	}
	p.areLive(t, "behind a Put that is refused", 19, []int{1, 2})
	p.holds(t, telling(numbered(3), 10, nameOf("h")), root, 20)
	p.areLive(t, "behind a Put", 19, []int{2, 3})
	p.areLive(t, "behind a Put", 20, []int{2, 3})
}

// Where the same one is among those that are held, it makes the room.
func TestRoomByTheSameOne(t *testing.T) {
	for _, own := range []int{0, 64, 127} {
		for _, ttl := range []int{1, 50, 500} {
			p := full(t, 3, func(i int) int { return 60 + i })
			p.holds(t, telling(great(numbered(own)), ttl, nameOf("k")), root, 11)
			p.areLive(t, "the same one", 11, without(128))
			p.has(t, "P15.2: the same one", numbered(own), 11, hosts("k"))
			// One that is there twice would be counted twice.
			p.holds(t, telling(numbered(150), 900, nameOf("k")), root, 11)
			if got := p.live(t, 200, 11); len(got) != 128 || got[127] != 150 {
				t.Errorf("P15.2: %d are live", len(got))
			}
		}
	}
}

// A cut goes alone: those below it and above it stay.
func TestCutsBelowStay(t *testing.T) {
	a, b, c := nameOf("a"), nameOf("b", "a"), nameOf("c", "b", "a")
	p := plain(t)
	p.holds(t, telling(a, 30, nameOf("h")), root, 10)
	p.holds(t, telling(b, 20, nameOf("h")), a, 10)
	p.holds(t, telling(c, 30, nameOf("h")), b, 10)
	p.isDeepest(t, "below all", nameOf("d", "c", "b", "a"), 29, c)
	p.holds(t, telling(nameOf("x"), 30, nameOf("h")), root, 30)
	p.has(t, "P15.2: gone", b, 15, nil)
	p.isDeepest(t, "the middle one is gone", c, 30, c)
	p.isDeepest(t, "the middle one is gone", nameOf("d", "b", "a"), 30, a)
}
