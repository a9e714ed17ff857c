package ids_test

import (
	"math"
	"math/rand"
	"slices"
	"sync"
	"testing"

	"wimple/api"
	"wimple/ids"
)

func TestNilIds(t *testing.T) {
	var none *ids.Ids
	for range 3 {
		if got, e := none.Next(); got != 0 || e != api.ErrNil {
			t.Errorf("R3: Next: %d, %d", got, e)
		}
		if got := none.Left(); got != 0 {
			t.Errorf("R3: Left: %d", got)
		}
	}
	refused, _ := ids.New(make([]int, api.MaxIds+1))
	if got, e := refused.Next(); got != 0 || e != api.ErrNil {
		t.Errorf("R3: Next of what New refused: %d, %d", got, e)
	}
}

// One that New did not make has no draws.
func TestIdsThatNewDidNotMake(t *testing.T) {
	spent(t, new(ids.Ids))
}

// What is handed in may be written over at any time, ahead of the first Next or between two, by what is given itself too.
func TestDrawsAreNotKept(t *testing.T) {
	for count := range 12 {
		for when := range count + 1 {
			draws := append(rising(1, count), 91, 92, 93)[:count]
			d := made(t, draws)
			for i := range when {
				next(t, d, 1+i)
			}
			for i := range draws[:cap(draws)] {
				draws[:cap(draws)][i] = -9 - i
			}
			_ = append(draws, 77)
			gives(t, d, rising(1+when, count-when)...)
		}
	}
}

// A piece of a longer list: neither what stands ahead of it nor what stands behind it is given.
func TestPiecesOfAList(t *testing.T) {
	long := rising(100, 9)
	for from := range len(long) + 1 {
		for to := from; to <= len(long); to++ {
			gives(t, made(t, long[from:to]), rising(100+from, to-from)...)
			gives(t, made(t, long[from:to:to]), rising(100+from, to-from)...)
		}
	}
	if !slices.Equal(long, rising(100, 9)) {
		t.Errorf("R4: %v", long)
	}
}

// Neither the draws nor the room behind them are written to, though they be greater than 16 bits, or too many.
func TestDrawsAreNotChanged(t *testing.T) {
	r := rand.New(rand.NewSource(182))
	for _, count := range []int{0, 1, 2, 3, 50, api.MaxIds - 1, api.MaxIds, api.MaxIds + 1, 2 * api.MaxIds} {
		roomy := make([]int, count+20)
		for i := range roomy {
			roomy[i] = int(r.Uint64())
		}
		was := slices.Clone(roomy)
		d, _ := ids.New(roomy[:count])
		for range count + 3 {
			d.Left()
			d.Next()
		}
		if !slices.Equal(roomy, was) {
			t.Errorf("R4: %d draws were changed", count)
		}
	}
}

// Two of the same draws: each gives all of them, in whatever turns they are asked.
func TestEachGivesItsOwn(t *testing.T) {
	draws := []int{5, -1, 65536, math.MaxInt, math.MinInt, 5, 40000}
	want := wantNumbers(draws)
	for _, other := range [][]int{draws, draws[2:], draws[:3]} {
		for turns := range 1 << (len(draws) + len(other)) {
			a, b := made(t, draws), made(t, other)
			i, j := 0, 0
			for turn := range len(draws) + len(other) {
				if turns>>turn&1 == 0 && i < len(draws) {
					next(t, a, want[i])
					i++
				} else if j < len(other) {
					next(t, b, wantNumber(other[j]))
					j++
				}
				left(t, a, len(draws)-i)
				left(t, b, len(other)-j)
			}
		}
	}
}

// One that is spent, one that is made in the meantime, and one that New refuses leave another as it was.
func TestOthersTurnNothing(t *testing.T) {
	draws := []int{11, 12, 13}
	d := made(t, draws)
	next(t, d, 11)
	gives(t, made(t, draws), draws...)
	next(t, d, 12)
	refuses(t, make([]int, api.MaxIds+1))
	spent(t, made(t, nil))
	made(t, []int{14, 15})
	gives(t, d, 13)
	spent(t, made(t, draws[:0]))
	gives(t, made(t, draws), draws...)
}

// The same draws give the same numbers each time.
func TestOneAnswerEachTime(t *testing.T) {
	draws := rising(-300, 600)
	for range 50 {
		gives(t, made(t, draws), wantNumbers(draws)...)
	}
}

// Those of several goroutines have nothing in common, though they be made of one list.
func TestSeveralGoroutines(t *testing.T) {
	draws := rising(math.MaxInt-1000, api.MaxIds-24)
	want := wantNumbers(draws)
	var group sync.WaitGroup
	for range 8 {
		group.Go(func() {
			for range 100 {
				d, e := ids.New(draws)
				var got []int
				for e == api.OK {
					var x int
					if x, e = d.Next(); e == api.OK {
						got = append(got, x)
					}
				}
				if e != api.ErrIdsSpent || d.Left() != 0 || !slices.Equal(got, want) {
					t.Errorf("R5: %d numbers, %d left, %d", len(got), d.Left(), e)
					return
				}
			}
		})
	}
	group.Wait()
}
