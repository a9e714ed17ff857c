package ids_test

import (
	"math"
	"math/big"
	"math/bits"
	"math/rand"
	"slices"
	"testing"
	"time"

	"wimple/api"
	"wimple/ids"
)

// all is how many numbers 16 bits tell.
const all = 65536

// wantNumber is P18.1's 'modulo 2^16 (from 0 on)', by big numbers: their Mod is never below 0.
func wantNumber(x int) int {
	return int(new(big.Int).Mod(big.NewInt(int64(x)), big.NewInt(all)).Int64())
}

// wantNumbers gives what a row of draws should come to.
func wantNumbers(draws []int) []int {
	out := make([]int, len(draws))
	for i, x := range draws {
		out[i] = wantNumber(x)
	}
	return out
}

// made gives the Ids of draws that may be.
func made(t *testing.T, draws []int) *ids.Ids {
	t.Helper()
	d, e := ids.New(draws)
	if d == nil || e != api.OK {
		t.Fatalf("P18.1: New of %d draws: is there one: %t, %d", len(draws), d != nil, e)
	}
	return d
}

// refuses holds New against ErrIdsForm, beside which there is nothing.
func refuses(t *testing.T, draws []int) {
	t.Helper()
	if d, e := ids.New(draws); d != nil || e != api.ErrIdsForm {
		t.Fatalf("P18.1: New of %d draws: is there one: %t, %d", len(draws), d != nil, e)
	}
}

// left holds Left against a number, and asks twice, for asking takes nothing.
func left(t *testing.T, d *ids.Ids, want int) {
	t.Helper()
	for range 2 {
		if got := d.Left(); got != want {
			t.Fatalf("P18.1: %d are left, want %d", got, want)
		}
	}
}

// next holds Next against a number.
func next(t *testing.T, d *ids.Ids, want int) {
	t.Helper()
	if got, e := d.Next(); got != want || e != api.OK {
		t.Fatalf("P18.1: Next: %d, %d, want %d", got, e, want)
	}
}

// spent holds d against one of which all were given, however often it is asked.
func spent(t *testing.T, d *ids.Ids) {
	t.Helper()
	left(t, d, 0)
	for range 3 {
		if got, e := d.Next(); got != 0 || e != api.ErrIdsSpent {
			t.Fatalf("P18.1: Next behind the last one: %d, %d", got, e)
		}
		left(t, d, 0)
	}
}

// gives holds d against a row of numbers, behind which there is none.
func gives(t *testing.T, d *ids.Ids, want ...int) {
	t.Helper()
	for i, x := range want {
		left(t, d, len(want)-i)
		next(t, d, x)
	}
	spent(t, d)
}

// rising gives so many draws that all differ, from first on.
func rising(first, count int) []int {
	out := make([]int, count)
	for i := range out {
		out[i] = first + i
	}
	return out
}

func TestOrdinaryDraws(t *testing.T) {
	gives(t, made(t, []int{4711}), 4711)
	gives(t, made(t, []int{7, 40000, 258}), 7, 40000, 258)
	gives(t, made(t, []int{5, 5, 3, 5}), 5, 5, 3, 5)
	gives(t, made(t, []int{9, 8, 7, 6, 5, 4}), 9, 8, 7, 6, 5, 4)
	gives(t, made(t, []int{0}), 0)
	gives(t, made(t, []int{0, 0, 1}), 0, 0, 1)
	gives(t, made(t, []int{70000, -5, 1}), 4464, 65531, 1)
}

func TestDrawsAtTheEdges(t *testing.T) {
	for _, c := range []struct{ draw, want int }{
		{0, 0}, {1, 1}, {255, 255}, {256, 256}, {257, 257},
		{32767, 32767}, {32768, 32768}, {32769, 32769},
		{65534, 65534}, {65535, 65535}, {65536, 0}, {65537, 1},
		{131071, 65535}, {131072, 0}, {131073, 1}, {98304, 32768}, {70000, 4464},
		{-1, 65535}, {-2, 65534}, {-255, 65281}, {-256, 65280},
		{-32767, 32769}, {-32768, 32768}, {-32769, 32767},
		{-65534, 2}, {-65535, 1}, {-65536, 0}, {-65537, 65535},
		{-131071, 1}, {-131072, 0}, {-131073, 65535}, {-70000, 61072},
		{math.MaxInt32, 65535}, {math.MinInt32, 0}, {math.MinInt32 + 1, 1},
		{math.MaxInt, 65535}, {math.MaxInt - 1, 65534}, {math.MaxInt - 65535, 0}, {math.MaxInt - 65536, 65535},
		{math.MinInt, 0}, {math.MinInt + 1, 1}, {math.MinInt + 65535, 65535}, {math.MinInt + 65536, 0},
	} {
		if wantNumber(c.draw) != c.want {
			t.Fatalf("%d comes to %d, not to %d", c.draw, wantNumber(c.draw), c.want)
		}
		gives(t, made(t, []int{c.draw}), c.want)
		gives(t, made(t, []int{3, c.draw, c.draw, 4}), 3, c.want, c.want, 4)
	}
}

// Every number of 18 bits, above 0 and below, as rows as long as there may be.
func TestEveryDrawNearZero(t *testing.T) {
	for first := -1 << 18; first < 1<<18; first += api.MaxIds {
		draws := rising(first, api.MaxIds)
		gives(t, made(t, draws), wantNumbers(draws)...)
	}
}

// Each number with one bit, and those near it and near its negative.
func TestDrawsNearPowersOfTwo(t *testing.T) {
	for bit := range bits.UintSize {
		one := 1 << bit
		var draws []int
		for off := -3; off <= 3; off++ {
			draws = append(draws, one+off, -one+off, one+all*off, -one-all*off, one-one/3+off)
		}
		gives(t, made(t, draws), wantNumbers(draws)...)
	}
}

func TestNoDraws(t *testing.T) {
	spent(t, made(t, nil))
	spent(t, made(t, []int{}))
	spent(t, made(t, make([]int, 0, 9)))
	spent(t, made(t, []int{1, 2, 3}[:0]))
	spent(t, made(t, []int{1, 2, 3}[3:]))
}

// Each length that there may be; the first, the last and all between are given.
func TestHowManyDrawsThereMayBe(t *testing.T) {
	for count := range api.MaxIds + 1 {
		draws := rising(count*all-7, count)
		d := made(t, draws)
		left(t, d, count)
		gives(t, d, wantNumbers(draws)...)
	}
}

func TestTooManyDraws(t *testing.T) {
	for _, more := range []int{1, 2, 3, 255, 1023, 1024, 1025, 64511, 64512, 1 << 20} {
		refuses(t, rising(1, api.MaxIds+more))
	}
	refuses(t, make([]int, api.MaxIds+1))
	refuses(t, make([]int, api.MaxIds+1, 2*api.MaxIds))
	// It is the draws that count, not the room behind them.
	roomy := rising(1, 4*api.MaxIds)
	gives(t, made(t, roomy[:api.MaxIds]), wantNumbers(roomy[:api.MaxIds])...)
	gives(t, made(t, roomy[3*api.MaxIds:]), wantNumbers(roomy[3*api.MaxIds:])...)
	refuses(t, roomy[:api.MaxIds+1])
}

// Left ahead of the first one, between each two and behind the last one, asked often or not at all.
func TestLeftTakesNothing(t *testing.T) {
	for count := range 40 {
		draws := rising(-count, count)
		often, never := made(t, draws), made(t, draws)
		for i, x := range wantNumbers(draws) {
			for range i % 5 {
				left(t, often, count-i)
			}
			next(t, often, x)
			next(t, never, x)
		}
		spent(t, often)
		spent(t, never)
	}
}

func TestNextBehindTheLastOne(t *testing.T) {
	for _, count := range []int{0, 1, 2, api.MaxIds - 1, api.MaxIds} {
		draws := rising(1, count)
		d := made(t, draws)
		gives(t, d, draws...)
		for range 3 * api.MaxIds {
			if got, e := d.Next(); got != 0 || e != api.ErrIdsSpent {
				t.Fatalf("P18.1: Next behind the last one: %d, %d", got, e)
			}
		}
		spent(t, d)
	}
}

// Random rows, asked in random turns, against a list that gets shorter.
func TestSomeDraws(t *testing.T) {
	r := rand.New(rand.NewSource(181))
	for range 3000 {
		draws := make([]int, r.Intn(30))
		for i := range draws {
			draws[i] = int(r.Uint64()) >> r.Intn(bits.UintSize)
		}
		d, rest := made(t, draws), wantNumbers(draws)
		for range 2 * len(draws) {
			if r.Intn(3) == 0 {
				left(t, d, len(rest))
				continue
			}
			if len(rest) == 0 {
				spent(t, d)
				continue
			}
			next(t, d, rest[0])
			rest = rest[1:]
		}
		gives(t, d, rest...)
	}
}

// What costs most: rows as long as there may be, asked to their ends and on, and rows far too long.
func TestItEndsSoon(t *testing.T) {
	began := time.Now()
	draws, long := rising(-500, api.MaxIds), make([]int, 1<<22)
	for range 1000 {
		d := made(t, draws)
		for range 2 * api.MaxIds {
			d.Next()
			d.Left()
		}
		spent(t, d)
		refuses(t, long)
	}
	if took := time.Since(began); took > 10*time.Second {
		t.Errorf("it took %v", took)
	}
}

func FuzzIds(f *testing.F) {
	f.Add(0, 65535, -1, 3)
	f.Add(math.MinInt, math.MaxInt, 65536, 1024)
	f.Add(70000, -70000, 4464, 1025)
	f.Add(1, 2, 3, 0)
	f.Fuzz(func(t *testing.T, a, b, c, count int) {
		draws := make([]int, count&4095)
		for i := range draws {
			draws[i] = [...]int{a, b, c, a + i*b}[i%4]
		}
		was := slices.Clone(draws)
		if len(draws) > 1024 {
			refuses(t, draws)
			return
		}
		d := made(t, draws)
		clear(draws)
		gives(t, d, wantNumbers(was)...)
	})
}
