package out_test

import (
	"fmt"
	"math"
	"math/rand"
	"slices"
	"strings"
	"sync"
	"testing"
	"time"
	"unsafe"

	"wimple/api"
	"wimple/out"
)

func TestNilTable(t *testing.T) {
	var none *out.Table
	refused, _ := out.New(0)
	for _, x := range []*out.Table{none, refused} {
		for _, a := range []api.Asked{{}, numbered(1), {Id: -1}, {Addr: 1 << 32}} {
			if e := x.Add(a); e != api.ErrNil {
				t.Errorf("R3: Add: %d", e)
			}
			if got, e := x.Take(a.Addr, a.Id, asks(a)); got != (api.Asked{}) || e != api.ErrNil {
				t.Errorf("R3: Take: %s, %d", tell(got), e)
			}
		}
		for _, now := range []int{0, -1, 1, math.MinInt, math.MaxInt} {
			if got := x.Due(now); len(got) != 0 {
				t.Errorf("R3: Due: %s", tell(got))
			}
		}
		if got := x.All(); len(got) != 0 {
			t.Errorf("R3: All: %s", tell(got))
		}
	}
}

// Of one that New did not make no more is asked than R1 asks.
func TestTableThatNewDidNotMake(t *testing.T) {
	x := new(out.Table)
	for k := range 20 {
		a := numbered(k)
		x.Add(a)
		x.Take(a.Addr, a.Id, asks(a))
		x.Due(90 + k)
		x.All()
	}
	if e := x.Add(api.Asked{}); e != api.ErrOutForm {
		t.Errorf("R1: %d", e)
	}
}

// Each has what was added to it, and nothing of another one.
func TestEachIsItsOwn(t *testing.T) {
	a, b := numbered(1), numbered(2)
	one, two := filled(t, 2, a, b), newPair(t, 2)
	two.holds(t, "another one")
	two.takesNone(t, "another one", a.Addr, a.Id, asks(a))
	two.isDue(t, "another one", 999)
	two.adds(t, b)
	two.adds(t, a)
	two.takes(t, "its own", a.Addr, a.Id, asks(a), a)
	one.holds(t, "the first one", a, b)
	one.isDue(t, "the first one", 999, a, b)
	two.holds(t, "another one", b)
}

// view gives a string that changes with b.
func view(b []byte) string {
	return unsafe.String(unsafe.SliceData(b), len(b))
}

// lent is texts whose memory is kept to be written over.
type lent struct {
	bytes [][]byte
	was   []string
}

func (l *lent) text(s string) string {
	b := []byte(s)
	l.bytes, l.was = append(l.bytes, b), append(l.was, s)
	return view(b)
}

// spoil holds that all texts are as they were, and writes over them.
func (l *lent) spoil(t *testing.T) {
	t.Helper()
	for i, b := range l.bytes {
		if string(b) != l.was[i] {
			t.Errorf("R4: %q was changed to %q", l.was[i], b)
		}
		for j := range b {
			b[j] = 'x'
		}
	}
}

// lend gives a with texts that may be written over.
func (l *lent) lend(a api.Asked) api.Asked {
	a.Cut, a.Target, a.Step.Name = l.text(a.Cut), l.text(a.Target), l.text(a.Step.Name)
	return a
}

// What is handed in is as it was; writing over it, be it folded already or not, changes nothing that is held.
func TestNothingHandedInIsKept(t *testing.T) {
	for _, form := range []func(string) string{folded, great} {
		row := []api.Asked{asked(5, 6, form(nameOf("www", "a")), 7, 30), asked(5, 6, form(nameOf("www", "a")), 7, 20), asked(8, 9, form(nameOf("b")), 1, 40)}
		for i := range row {
			row[i].Cut, row[i].Target = form(nameOf("a")), form(nameOf("x", "a"))
		}
		for _, refused := range []bool{false, true} {
			p := newPair(t, 3)
			for _, a := range row {
				var l lent
				if e := p.x.Add(l.lend(a)); e != api.OK {
					t.Fatalf("P19.1: %d", e)
				}
				l.spoil(t)
				p.m.add(a)
				p.all(t)
			}
			var l lent
			if refused {
				p.x.Add(l.lend(row[0]))
				p.x.Take(5, 7, question(l.text(row[0].Step.Name), 7, 1))
			} else if got, e := p.x.Take(5, 6, question(l.text(great(row[0].Step.Name)), 7, 1)); e != api.OK || got != row[0] {
				t.Fatalf("P19.2: %s, %d", tell(got), e)
			} else {
				p.m.take(5, 6, asks(row[0]))
			}
			l.spoil(t)
			p.all(t)
			for _, a := range slices.Clone(p.m.held) {
				p.takes(t, "what is left", a.Addr, a.Id, asks(a), a)
			}
		}
	}
}

// texts gives where each text of what is told stands.
func texts(list ...api.Asked) [][2]uintptr {
	var at [][2]uintptr
	for _, a := range list {
		for _, s := range []string{a.Cut, a.Target, a.Step.Name} {
			from := uintptr(unsafe.Pointer(unsafe.StringData(s)))
			at = append(at, [2]uintptr{from, from + uintptr(len(s))})
		}
	}
	return at
}

// apart holds that no two of the lists have memory in common.
func apart(t *testing.T, lists ...[]api.Asked) {
	t.Helper()
	for i, one := range lists {
		for _, two := range lists[i+1:] {
			for _, x := range texts(one...) {
				for _, y := range texts(two...) {
					if x[0] < y[1] && y[0] < x[1] {
						t.Fatalf("R4: two answers share memory: %s, %s", tell(one), tell(two))
					}
				}
			}
		}
	}
}

// Answers share nothing with each other, with what came in, nor with what is held.
func TestAnswersShareNothing(t *testing.T) {
	p := newPair(t, 16)
	var given []api.Asked
	for k := range 9 {
		a := numbered(k % 7)
		a.Step.Name = strings.Clone(a.Step.Name)
		given = append(given, a)
		p.adds(t, a)
	}
	all := p.x.All()
	again := p.x.All()
	taken, e := p.x.Take(given[0].Addr, given[0].Id, asks(given[0]))
	if e != api.OK || taken != given[0] {
		t.Fatalf("P19.2: %s, %d", tell(taken), e)
	}
	left := p.x.All()
	due := p.x.Due(110)
	rest := p.x.All()
	if len(all) != 9 || len(left) != 8 || len(due) == 0 || len(rest) == 0 || len(due)+len(rest) != 8 {
		t.Fatalf("P19.2: %d, %d, %d, %d", len(all), len(left), len(due), len(rest))
	}
	apart(t, given, all, again, []api.Asked{taken}, left, due, rest)
}

// Lists that are handed out may be written over, and behind their ends too.
func TestListsHandedOutAreNotHeld(t *testing.T) {
	var row []api.Asked
	p := newPair(t, 16)
	for k := range 12 {
		row = append(row, numbered(k%5))
		p.adds(t, numbered(k%5))
	}
	ruin := func(list []api.Asked) {
		list = list[:cap(list)]
		for i := range list {
			list[i] = api.Asked{Job: -7, Step: api.Step{Name: "no name"}}
		}
		_ = append(list, numbered(30))
	}
	for now := 95; now < 125; now += 3 {
		ruin(p.x.All())
		p.all(t)
		due, want := p.x.Due(now), p.m.due(now)
		if !slices.Equal(due, want) {
			t.Fatalf("P19.2: %s, want %s", tell(due), tell(want))
		}
		ruin(due)
		p.all(t)
		for _, a := range row {
			if len(p.m.held) < 16 {
				p.adds(t, a)
			}
		}
	}
}

// A refused call, and one that only asks, turn nothing of what comes behind it.
func TestRefusedCallsTurnNothing(t *testing.T) {
	r := rand.New(rand.NewSource(191))
	for range 300 {
		one, two := newPair(t, 4), newPair(t, 4)
		for range 40 {
			a := numbered(r.Intn(6))
			// Only the second one is handed what it must refuse.
			wrong := a
			wrong.Id = 65536
			two.refuses(t, "a wrong one", wrong, api.ErrOutForm)
			if len(two.m.held) == 4 {
				two.refuses(t, "a full one", a, api.ErrOutFull)
			}
			two.takesNone(t, "another class", a.Addr, a.Id, question(a.Step.Name, a.Step.Type, 3))
			two.isDue(t, "an early tick", 90)
			switch r.Intn(4) {
			case 0:
				x, e := one.take(t, a.Addr, a.Id, asks(a))
				if y, f := two.take(t, a.Addr, a.Id, asks(a)); x != y || e != f {
					t.Fatalf("R5: %s, %d and %s, %d", tell(x), e, tell(y), f)
				}
			case 1:
				now := 95 + r.Intn(30)
				if x, y := one.due(t, now), two.due(t, now); !slices.Equal(x, y) {
					t.Fatalf("R5: %s and %s", tell(x), tell(y))
				}
			default:
				if e, f := one.add(t, a), two.add(t, a); e != f {
					t.Fatalf("R5: %d and %d", e, f)
				}
			}
			two.holds(t, "R5", one.m.held...)
		}
	}
}

// anyAsked gives one of few, so that many are alike, or an odd one.
func anyAsked(r *rand.Rand, k int) api.Asked {
	names := []string{root, nameOf("a"), nameOf("A"), nameOf("b"), nameOf("a", "b"), nameOf("A", "B")}
	a := asked(r.Intn(2), r.Intn(2), names[r.Intn(len(names))], 1+r.Intn(2), r.Intn(30))
	a.Job = k
	switch r.Intn(30) {
	case 0:
		a.Id = []int{-1, 65535, 65536, 1 << 33}[r.Intn(4)]
	case 1:
		a.Addr = []int{-1, 1<<32 - 1, 1 << 32, 1 << 48}[r.Intn(4)]
	case 2:
		a.Step.Type = []int{-1, 0, 65535, 65536}[r.Intn(4)]
	case 3:
		a.Step.Name = noNames()[r.Intn(len(noNames()))]
	case 4:
		a.Cut, a.Target = "", strings.Repeat("t", r.Intn(300))
	}
	return a
}

// play makes random calls of a pair.
func play(t *testing.T, r *rand.Rand, p *pair, calls int) {
	t.Helper()
	for k := range calls {
		switch r.Intn(6) {
		case 0, 1, 2:
			p.add(t, anyAsked(r, k))
		case 3:
			a := anyAsked(r, k)
			q := asks(a)
			if r.Intn(9) == 0 {
				q.Class = r.Intn(4)
			}
			p.take(t, a.Addr, a.Id, q)
		case 4:
			if len(p.m.held) > 0 {
				a := p.m.held[r.Intn(len(p.m.held))]
				p.take(t, a.Addr, a.Id, question(great(a.Step.Name), a.Step.Type, 1))
			}
		default:
			p.due(t, r.Intn(34)-r.Intn(20))
		}
	}
}

func TestRandomCalls(t *testing.T) {
	r := rand.New(rand.NewSource(192))
	for i := range 1500 {
		play(t, r, newPair(t, 1+i%16), 60)
	}
}

// The same calls are answered so each time, whatever row a map is gone through in.
func TestOneAnswerEachTime(t *testing.T) {
	for range 60 {
		play(t, rand.New(rand.NewSource(193)), newPair(t, 16), 100)
	}
}

// Tables of several goroutines have nothing in common.
func TestSeveralGoroutines(t *testing.T) {
	var group sync.WaitGroup
	for i := range 8 {
		group.Go(func() {
			for range 60 {
				x, e := out.New(8)
				if e != api.OK {
					t.Errorf("P19.1: %d", e)
					return
				}
				var want []api.Asked
				for k := range 8 {
					a := numbered(k*(i+1) + i)
					want = append(want, a)
					e = max(e, x.Add(a))
				}
				first, f := x.Take(want[3].Addr, want[3].Id, asks(want[3]))
				if e != api.OK || f != api.OK || first != want[3] || !slices.Equal(x.All(), slices.Delete(want, 3, 4)) {
					t.Errorf("R5: %d, %d, %s", e, f, tell(x.All()))
					return
				}
			}
		})
	}
	group.Wait()
}

// A million ticks of a full table take as long as so many looks at 16.
func TestItEndsSoon(t *testing.T) {
	from := time.Now()
	x, e := out.New(16)
	if e != api.OK {
		t.Fatalf("P19.1: %d", e)
	}
	for k := range 200000 {
		a := asked(k%3, k%65536, nameOf(fmt.Sprint(k%40)), 1, k+15)
		if e := x.Add(a); e != api.OK {
			t.Fatalf("P19.1: %d at %d", e, k)
		}
		if due := x.Due(k); k >= 15 && len(due) != 1 || k < 15 && len(due) != 0 {
			t.Fatalf("P19.2: %s at %d", tell(due), k)
		}
	}
	long := strings.Repeat("t", 1<<24)
	a := numbered(1)
	a.Cut, a.Target = long, long
	x.Add(a)
	if got, e := x.Take(a.Addr, a.Id, question(long, a.Step.Type, 1)); got != (api.Asked{}) || e != api.ErrOutNone {
		t.Errorf("P19.2: %d", e)
	}
	a.Step.Name = long
	if e := x.Add(a); e != api.ErrOutForm {
		t.Errorf("P19.1: %d", e)
	}
	if d := time.Since(from); d > 20*time.Second {
		t.Errorf("R1: it took %v", d)
	}
}

func FuzzTable(f *testing.F) {
	f.Add(int64(1), uint8(3), uint8(40), nameOf("a"), 1, 2, 3, 4)
	f.Add(int64(2), uint8(15), uint8(90), nameOf("Www", "b"), 65535, 1<<32-1, 65535, 9)
	f.Add(int64(3), uint8(0), uint8(9), "", -1, 1<<32, 65536, -9)
	f.Fuzz(func(t *testing.T, seed int64, most, calls uint8, n string, id, addr, kind, until int) {
		r := rand.New(rand.NewSource(seed))
		p := newPair(t, 1+int(most)%16)
		play(t, r, p, int(calls)/2)
		a := asked(addr, id, n, kind, until)
		p.add(t, a)
		play(t, r, p, int(calls)%5)
		p.take(t, addr, id, question(great(n), kind, 1))
		p.take(t, addr, id, asks(a))
		play(t, r, p, int(calls)/2)
	})
}
