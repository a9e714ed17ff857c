package qmin_test

import (
	"math/rand"
	"slices"
	"sync"
	"testing"
	"unsafe"

	"wimple/api"
	"wimple/qmin"
)

// lent gives n in memory that may be written over.
func lent(n string) ([]byte, string) {
	b := []byte(n)
	return b, unsafe.String(unsafe.SliceData(b), len(b))
}

// tasksOfAllWays gives a task for each way in which Next comes to a name.
func tasksOfAllWays() []api.Task {
	fall := task(named("A.b.C"), root, 16, 0)
	fall.Fallback = true
	return []api.Task{
		fall,
		task(named("A.b.C"), root, 16, 0),
		task(named("a.b.c"), root, 16, 0),
		task(named("a.b.c"), named("c"), 16, 1),
		task(named("a.b.c"), named("b.c"), 16, 2),
		task(named("A.b.c"), named("B.C"), 16, 2),
		task(named("a.b.c"), named("a.b.c"), 16, 3),
		task(root, root, 16, 0),
	}
}

// A name that is told is in memory of its own: what becomes of those that were handed in doesn't reach it, nor is it another answer's.
func TestNamesOfTheirOwn(t *testing.T) {
	seen, names := map[*byte]int{}, 0
	for _, x := range tasksOfAllWays() {
		want, _ := wantNext(x, 10, 4)
		own, n := lent(x.Name)
		upper, known := lent(x.Known)
		x.Name, x.Known = n, known
		one, _ := qmin.Next(x, 10, 4)
		two, _ := qmin.Next(x, 10, 4)
		again, _ := qmin.Next(task(two.Name, known, 16, 0), 0, 0)
		for _, s := range []string{n, known, one.Name, two.Name, again.Name} {
			seen[unsafe.StringData(s)]++
			names++
		}
		clear(own)
		clear(upper)
		if one != want || two != want || again.Name != want.Name {
			t.Errorf("R4: writing over names that were handed in: %s, %s, %s", tell(one), tell(two), tell(again))
		}
	}
	if len(seen) != names {
		t.Errorf("R4: %d names lie in %d places", names, len(seen))
	}
}

// Names are not written to, though they be folded to be told.
func TestNamesAreNotWrittenTo(t *testing.T) {
	for _, x := range append(tasksOfAllWays(), task(named("A.B"), named("C"), 16, 0), task("A\x00", "B", 0, -1)) {
		was := x
		own, n := lent(x.Name)
		upper, known := lent(x.Known)
		cut, shown := lent(named("Cut"))
		x.Name, x.Known, x.Cut = n, known, shown
		for range 3 {
			qmin.Next(x, 10, 4)
			if string(own) != was.Name || string(upper) != was.Known || string(cut) != named("Cut") {
				t.Fatalf("R4: %s was changed to %q, %q, %q", tell(was), own, upper, cut)
			}
		}
	}
}

// Several faults at once are one error, with nothing beside it.
func TestFaultsTogether(t *testing.T) {
	faults := []func(x *api.Task, count, one *int){
		func(x *api.Task, _, _ *int) { x.Name = "a" },
		func(x *api.Task, _, _ *int) { x.Known = "" },
		func(x *api.Task, _, _ *int) { x.Known = named("d") },
		func(x *api.Task, _, _ *int) { x.Type = 0 },
		func(x *api.Task, _, _ *int) { x.Type = 65536 },
		func(x *api.Task, _, _ *int) { x.Steps = -1 },
		func(x *api.Task, _, _ *int) { x.Steps = 1001 },
		func(_ *api.Task, count, _ *int) { *count = -1 },
		func(_ *api.Task, count, _ *int) { *count = 1001 },
		func(_ *api.Task, _, one *int) { *one = -1 },
		func(_ *api.Task, _, one *int) { *one = 1001 },
	}
	for _, sound := range tasksOfAllWays() {
		asked, e := check(t, sound, 10, 4)
		if asked == (api.Step{}) || e != api.OK {
			t.Fatalf("P17.2: %s: %d", tell(sound), e)
		}
		for _, a := range faults {
			for _, b := range faults {
				for _, c := range faults {
					x, count, one := sound, 10, 4
					a(&x, &count, &one)
					b(&x, &count, &one)
					c(&x, &count, &one)
					refuses(t, "faults", x, count, one)
				}
			}
		}
	}
}

// What is asked hangs on nothing that was asked before.
func TestNothingIsKept(t *testing.T) {
	all := tasksOfAllWays()
	for range 3 {
		for _, x := range all {
			check(t, x, 10, 4)
			check(t, x, 0, 0)
			refuses(t, "a number", x, -1, 0)
		}
		slices.Reverse(all)
	}
}

func TestSeveralGoroutines(t *testing.T) {
	shared := tasksOfAllWays()
	var all sync.WaitGroup
	for g := range 8 {
		all.Go(func() {
			r := rand.New(rand.NewSource(int64(g)))
			for range 2000 {
				own, count, one := some(r)
				for _, x := range []api.Task{own, shared[r.Intn(len(shared))]} {
					got, e := qmin.Next(x, count, one)
					if want, f := wantNext(x, count, one); got != want || e != f {
						t.Errorf("R5: %s, %d, %d: %s, %d", tell(x), count, one, tell(got), e)
						return
					}
				}
				got, e := qmin.Size(own.Steps, own.Server, count, one)
				if want, f := wantSize(own.Steps, own.Server, count, one); got != want || e != f {
					t.Errorf("R5: %d, %d", got, e)
					return
				}
			}
		})
	}
	all.Wait()
}
