package qmin_test

import (
	"fmt"
	"math"
	"math/rand"
	"slices"
	"strings"
	"testing"
	"time"

	"wimple/api"
	"wimple/name"
	"wimple/pad"
	"wimple/qmin"
)

const root = "\x00"

// named gives the name of a text whose labels have dots between them.
func named(s string) string {
	out := ""
	for _, l := range strings.FieldsFunc(s, func(c rune) bool { return c == '.' }) {
		out += string([]byte{byte(len(l))}) + l
	}
	return out + root
}

// deep gives a name of so many labels of one letter, which go round.
func deep(count int) string {
	out := ""
	for i := range count {
		out += string([]byte{1, byte('A' + i%26)})
	}
	return out + root
}

// tell shortens what is told.
func tell(x any) string {
	s := fmt.Sprintf("%+q", fmt.Sprintf("%+v", x))
	if len(s) > 900 {
		return s[:900] + ".."
	}
	return s
}

// small gives n with its great letters made small.
func small(n string) string {
	return shifted(n, 'A', 32)
}

// great gives n with its small letters made great.
func great(n string) string {
	return shifted(n, 'a', -32)
}

// shifted gives n with the 26 letters from the first one on moved. The length of a label is below all letters.
func shifted(n string, first byte, by int) string {
	out := []byte(n)
	for i, c := range out {
		if c >= first && c < first+26 {
			out[i] = byte(int(c) + by)
		}
	}
	return string(out)
}

// upwards gives n and all that is above it, folded, the root last; nothing, if n is no name.
func upwards(n string) []string {
	if !name.May(n) {
		return nil
	}
	out := []string{small(n)}
	for n != root {
		n = n[1+int(n[0]):]
		out = append(out, small(n))
	}
	return out
}

// wantSize is P17.1, where a number that is rounded up is found by adding.
func wantSize(steps, left, count, one int) (int, api.Errno) {
	switch {
	case min(steps, count, one) < 0, left < 1, max(steps, left, count, one) > 1000:
		return 0, api.ErrQminForm
	case steps < one, left <= count-steps:
		return 1, api.OK
	case steps >= count:
		return left, api.OK
	}
	k := 0
	for told := 0; told < left; told += count - steps {
		k++
	}
	return k, api.OK
}

// wantNext is P17.2, where the names are gone through from Name upwards.
func wantNext(t api.Task, count, one int) (api.Step, api.Errno) {
	all := upwards(t.Name)
	left := slices.Index(all, small(t.Known))
	size, e := wantSize(t.Steps, max(1, left), count, one)
	switch {
	case left < 0, t.Type < 1, t.Type > 65535, e != api.OK:
		return api.Step{}, api.ErrQminForm
	case t.Fallback, left == 0, left == size:
		return api.Step{Name: all[0], Type: t.Type}, api.OK
	}
	return api.Step{Name: all[left-size], Type: api.TypeA}, api.OK
}

// checkSize holds Size against P17.1.
func checkSize(t *testing.T, steps, left, count, one int) {
	t.Helper()
	got, e := qmin.Size(steps, left, count, one)
	if want, f := wantSize(steps, left, count, one); got != want || e != f {
		t.Fatalf("P17.1: Size(%d, %d, %d, %d) = %d, %d, want %d, %d", steps, left, count, one, got, e, want, f)
	}
}

// check holds Next against P17.2.
func check(t *testing.T, task api.Task, count, one int) (api.Step, api.Errno) {
	t.Helper()
	got, e := qmin.Next(task, count, one)
	if want, f := wantNext(task, count, one); got != want || e != f {
		t.Fatalf("P17.2: Next(%s, %d, %d) = %s, %d, want %s, %d", tell(task), count, one, tell(got), e, tell(want), f)
	}
	return got, e
}

// asks holds Next against a question that is written out.
func asks(t *testing.T, what string, task api.Task, count, one int, n string, of int) {
	t.Helper()
	if got, e := check(t, task, count, one); got != (api.Step{Name: n, Type: of}) || e != api.OK {
		t.Errorf("P17.2: %s: %s, %d, want %q, %d", what, tell(got), e, n, of)
	}
}

// refuses holds Next against ErrQminForm, beside which there is nothing.
func refuses(t *testing.T, what string, task api.Task, count, one int) {
	t.Helper()
	if got, e := check(t, task, count, one); got != (api.Step{}) || e != api.ErrQminForm {
		t.Errorf("P17.2: %s: %s, %d", what, tell(got), e)
	}
}

func TestOrdinarySizes(t *testing.T) {
	for _, c := range []struct {
		what                    string
		steps, left, count, one int
		want                    int
	}{
		{"the first step", 0, 20, 10, 4, 1},
		{"the last one that tells one label", 3, 17, 10, 4, 1},
		{"the first one that tells more", 4, 16, 10, 4, 3},
		{"steps below one, though all steps are gone", 3, 17, 2, 4, 1},
		{"steps at one, all steps gone", 4, 16, 2, 4, 16},
		{"steps above one", 5, 13, 10, 4, 3},
		{"left below what there is room for", 4, 5, 10, 4, 1},
		{"left at it", 4, 6, 10, 4, 1},
		{"left above it", 4, 7, 10, 4, 2},
		{"steps just below count", 9, 16, 10, 4, 16},
		{"steps at count", 10, 16, 10, 4, 16},
		{"steps above count", 11, 16, 10, 4, 16},
		{"one left, steps at count", 10, 1, 10, 4, 1},
		{"one left, steps above count", 1000, 1, 0, 0, 1},
		{"divided evenly", 0, 20, 10, 0, 2},
		{"just above that", 0, 21, 10, 0, 3},
		{"just below that", 0, 19, 10, 0, 2},
		{"a third", 7, 10, 10, 0, 4},
		{"a half, evenly", 8, 10, 10, 0, 5},
		{"a half", 8, 11, 10, 0, 6},
		{"no steps at all", 0, 5, 0, 0, 5},
		{"no steps but the first", 0, 5, 0, 1, 1},
		{"one step", 0, 5, 1, 0, 5},
		{"all at the greatest", 1000, 1000, 1000, 1000, 1000},
		{"one above steps, at the greatest", 999, 1000, 1000, 1000, 1},
		{"each label", 0, 1000, 1000, 0, 1},
		{"each label but one", 0, 1000, 999, 0, 2},
		{"by three", 0, 1000, 3, 0, 334},
		{"left by one", 999, 1000, 1000, 0, 1000},
		{"all at the least", 0, 1, 0, 0, 1},
	} {
		if got, e := qmin.Size(c.steps, c.left, c.count, c.one); got != c.want || e != api.OK {
			t.Errorf("P17.1: %s: %d, %d, want %d", c.what, got, e, c.want)
		}
		checkSize(t, c.steps, c.left, c.count, c.one)
	}
}

// edges gives numbers at both ends of what may be, about them, and at the ends of an int.
func edges() []int {
	return []int{math.MinInt, math.MinInt + 1, -1 << 32, -1001, -1000, -2, -1, 0, 1, 2, 3, 10, 499, 500, 501, 998, 999, 1000, 1001, 1002, 1 << 16, 1<<31 - 1, 1 << 31, 1 << 32, 1<<32 + 1, 1<<63 - 1000, math.MaxInt - 1, math.MaxInt}
}

// Each number below its least one and above the greatest is refused, whatever the others are; at them none is.
func TestBoundsOfNumbers(t *testing.T) {
	least := [4]int{0, 1, 0, 0}
	for _, others := range [][4]int{{0, 1, 0, 0}, {1, 1, 1, 1}, {3, 7, 10, 4}, {4, 16, 10, 4}, {10, 5, 3, 0}, {1000, 1000, 1000, 1000}, {0, 1000, 1000, 0}} {
		for i := range others {
			for _, x := range edges() {
				c := others
				c[i] = x
				got, e := qmin.Size(c[0], c[1], c[2], c[3])
				if may := x >= least[i] && x <= 1000; may != (e == api.OK) || !may && (got != 0 || e != api.ErrQminForm) {
					t.Errorf("P17.1: %v: %d, %d", c, got, e)
				}
			}
		}
	}
	for _, a := range edges() {
		for _, b := range edges() {
			for _, c := range edges() {
				for _, d := range edges() {
					checkSize(t, a, b, c, d)
				}
			}
		}
	}
}

func TestEverySmallSize(t *testing.T) {
	for steps := -2; steps < 16; steps++ {
		for left := -2; left < 34; left++ {
			for count := -2; count < 16; count++ {
				for one := -2; one < 16; one++ {
					checkSize(t, steps, left, count, one)
				}
			}
		}
	}
}

// What is rounded up is the least number that reaches left in as many steps as there are.
func TestEveryQuotient(t *testing.T) {
	for rest := 1; rest <= 1000; rest++ {
		steps := (rest * 7) % (1001 - rest)
		for left := 1; left <= 1000; left++ {
			got, e := qmin.Size(steps, left, steps+rest, steps)
			if e != api.OK || got < 1 || got*rest < left || (got-1)*rest >= left {
				t.Fatalf("P17.1: %d by %d: %d, %d", left, rest, got, e)
			}
		}
	}
}

// All labels are told by the step count, or by the first step that tells more than one, if that is later; and never more than there are.
func TestSizesComeToAnEnd(t *testing.T) {
	for count := range 30 {
		for one := range 30 {
			for all := 1; all <= 130; all++ {
				steps := 0
				for left := all; left > 0; steps++ {
					size, e := qmin.Size(steps, left, count, one)
					if size < 1 || size > left || e != api.OK {
						t.Fatalf("P17.1: Size(%d, %d, %d, %d) = %d, %d", steps, left, count, one, size, e)
					}
					left -= size
				}
				if steps > max(count, one+1) || all <= count && steps != all {
					t.Fatalf("P17.1: %d labels are told in %d steps (%d, %d)", all, steps, count, one)
				}
			}
		}
	}
}

// task gives one whose other parts say nothing.
func task(n, known string, of, steps int) api.Task {
	return api.Task{Name: n, Type: of, Known: known, Steps: steps}
}

func TestOrdinarySteps(t *testing.T) {
	n := named("a.b.c.d.e.f.g.h")
	for _, c := range []struct {
		what       string
		known      string
		steps      int
		count, one int
		want       string
		of         int
	}{
		{"the first label", "", 0, 10, 4, "h", api.TypeA},
		{"the second one", "h", 1, 10, 4, "g.h", api.TypeA},
		{"one below a cut", "f.g.h", 0, 10, 4, "e.f.g.h", api.TypeA},
		{"one before the last step", "c.d.e.f.g.h", 6, 10, 4, "b.c.d.e.f.g.h", api.TypeA},
		{"the last step", "b.c.d.e.f.g.h", 7, 10, 4, "a.b.c.d.e.f.g.h", api.TypeMx},
		{"behind the last step", "a.b.c.d.e.f.g.h", 8, 10, 4, "a.b.c.d.e.f.g.h", api.TypeMx},
		{"two at once", "", 0, 4, 0, "g.h", api.TypeA},
		{"one, though there are few steps", "", 0, 4, 1, "h", api.TypeA},
		{"three at once", "h", 1, 4, 1, "e.f.g.h", api.TypeA},
		{"the rest in two", "e.f.g.h", 2, 4, 1, "c.d.e.f.g.h", api.TypeA},
		{"the rest in one", "c.d.e.f.g.h", 3, 4, 1, "a.b.c.d.e.f.g.h", api.TypeMx},
		{"steps at count", "h", 4, 4, 1, "a.b.c.d.e.f.g.h", api.TypeMx},
		{"steps above count", "h", 1000, 4, 1, "a.b.c.d.e.f.g.h", api.TypeMx},
		{"all at once", "", 0, 0, 0, "a.b.c.d.e.f.g.h", api.TypeMx},
		{"all in one step", "", 0, 1, 0, "a.b.c.d.e.f.g.h", api.TypeMx},
		{"all but one", "", 0, 8, 0, "h", api.TypeA},
		{"one less", "", 0, 7, 0, "g.h", api.TypeA},
		{"half, rounded up", "h", 0, 2, 0, "d.e.f.g.h", api.TypeA},
		{"one label is left, and one is told", "b.c.d.e.f.g.h", 0, 10, 4, "a.b.c.d.e.f.g.h", api.TypeMx},
		{"one label is left, steps are gone", "b.c.d.e.f.g.h", 9, 2, 0, "a.b.c.d.e.f.g.h", api.TypeMx},
		{"two are left, and two are told", "c.d.e.f.g.h", 5, 2, 0, "a.b.c.d.e.f.g.h", api.TypeMx},
		{"two are left, and one is told", "c.d.e.f.g.h", 5, 2, 6, "b.c.d.e.f.g.h", api.TypeA},
	} {
		for _, x := range []string{n, great(n)} {
			for _, known := range []string{named(c.known), great(named(c.known))} {
				asks(t, c.what, task(x, known, api.TypeMx, c.steps), c.count, c.one, named(c.want), c.of)
			}
		}
	}
	asks(t, "an address", task(n, root, api.TypeA, 0), 10, 4, named("h"), api.TypeA)
	asks(t, "an address, the last step", task(n, named("b.c.d.e.f.g.h"), api.TypeA, 7), 10, 4, n, api.TypeA)
}

// A Known that is the same as Name, in whatever case, leaves just the type to be asked.
func TestKnownIsName(t *testing.T) {
	for _, n := range []string{root, named("a"), named("www.Example"), named("WWW.EXAMPLE"), deep(127)} {
		for _, known := range []string{n, small(n), great(n)} {
			for _, steps := range []int{0, 1, 4, 10, 1000} {
				asks(t, "Known is Name", task(n, known, api.TypeTxt, steps), 10, 4, small(n), api.TypeTxt)
				asks(t, "Known is Name", task(n, known, api.TypeTxt, steps), 0, 0, small(n), api.TypeTxt)
				asks(t, "Known is Name", task(n, known, api.TypeTxt, steps), 1000, 1000, small(n), api.TypeTxt)
			}
		}
	}
}

func TestFallback(t *testing.T) {
	n := named("A.b.C.d")
	for _, known := range upwards(n) {
		for _, steps := range []int{0, 3, 10, 1000} {
			x := task(n, known, api.TypeTxt, steps)
			x.Fallback = true
			asks(t, "Fallback", x, 10, 4, named("a.b.c.d"), api.TypeTxt)
			asks(t, "Fallback", x, 1000, 1000, named("a.b.c.d"), api.TypeTxt)
			x.Type = api.TypeA
			asks(t, "Fallback, an address", x, 0, 0, named("a.b.c.d"), api.TypeA)
		}
	}
}

// noNames gives bytes of all kinds that are no name.
func noNames() []string {
	long := strings.Repeat("a", 63)
	three := "\x3f" + long + "\x3f" + long + "\x3f" + long
	return []string{
		"", "a", "A", "com", ".", "com.", "\x01", "\x01a", "\x02a\x00", "\x3f\x00", "\x00\x00", "\x00\x01a\x00", "\x01a\x00\x00", "\x01a\x00b", "\xc0\x0c", "\x01a\xc0\x00", "\xff\x00",
		"\x40" + long + "a\x00", three + "\x3e" + long[:62] + root, deep(128), strings.Repeat("\x00", 256), strings.Repeat("\x01a", 1<<16) + root,
	}
}

func TestWhatIsNoName(t *testing.T) {
	for _, n := range noNames() {
		for _, fallback := range []bool{false, true} {
			for _, known := range append(noNames(), n, root, named("a"), named("com")) {
				x := task(n, known, 1, 0)
				x.Fallback = fallback
				refuses(t, "Name is none", x, 10, 4)
			}
			for _, own := range []string{root, named("a"), named("com"), named("b.a")} {
				x := task(own, n, 1, 0)
				x.Fallback = fallback
				refuses(t, "Known is none", x, 10, 4)
			}
		}
	}
}

func TestKnownIsNotAbove(t *testing.T) {
	n := named("b.c.d")
	for _, s := range []string{"a", "b", "c", "e", "b.c", "a.d", "c.b", "a.c.d", "cc.d", "xc.d", "cx.d", "d.c.b", "a.b.c.d", "B.C.D.E", "b.c.d.e.f", "bb.c.d"} {
		x := task(n, named(s), 1, 0)
		refuses(t, s, x, 10, 4)
		x.Fallback = true
		refuses(t, s, x, 10, 4)
	}
	for _, known := range []string{named("c\x01d"), named("c.d")[1:], "\x01c" + named("d")[1:], named("c.d") + root, named("b\x01c\x01d")} {
		refuses(t, "its bytes are an end of Name's", task(n, known, 1, 0), 10, 4)
	}
	for _, known := range []string{named("a"), named("A.B"), deep(127)} {
		refuses(t, "Name is the root", task(root, known, 1, 0), 10, 4)
	}
	// Whose bytes end as Known's, but not at a label's beginning.
	refuses(t, "within a label", task("\x05x\x01c\x01d\x00", named("c.d"), 1, 0), 10, 4)
	refuses(t, "within a label", task("\x03x\x01d\x00", named("d"), 1, 0), 10, 4)
}

func TestEveryType(t *testing.T) {
	n := named("A.b")
	fall := task(n, root, 0, 0)
	fall.Fallback = true
	for of := 1; of <= 65535; of++ {
		asks(t, "not all of it", task(n, root, of, 0), 10, 4, named("b"), api.TypeA)
		asks(t, "all of it", task(n, named("B"), of, 1), 10, 4, named("a.b"), of)
		fall.Type = of
		asks(t, "Fallback", fall, 10, 4, named("a.b"), of)
	}
	for _, of := range []int{math.MinInt, -65536, -65535, -1, 0, 65536, 65537, 1 << 17, 1<<31 + 1, 1 << 32, 1<<32 + 1, math.MaxInt} {
		refuses(t, "not all of it", task(n, root, of, 0), 10, 4)
		refuses(t, "all of it", task(n, named("b"), of, 1), 10, 4)
		refuses(t, "Known is Name", task(n, n, of, 1), 10, 4)
		fall.Type = of
		refuses(t, "Fallback", fall, 10, 4)
	}
}

// Numbers that Size refuses are refused, be Size needed or not.
func TestNumbersThatSizeRefuses(t *testing.T) {
	n := named("a.b.c")
	for _, known := range upwards(n) {
		for _, fallback := range []bool{false, true} {
			x := task(n, known, 1, 0)
			x.Fallback = fallback
			for _, wrong := range edges() {
				if wrong >= 0 && wrong <= 1000 {
					continue
				}
				for _, other := range []int{0, 1, 10, 1000} {
					x.Steps = wrong
					refuses(t, "Steps", x, other, other)
					x.Steps = other
					refuses(t, "count", x, wrong, other)
					refuses(t, "one", x, other, wrong)
					refuses(t, "both", x, wrong, wrong)
				}
			}
			for _, a := range []int{0, 1, 999, 1000} {
				for _, b := range []int{0, 1, 999, 1000} {
					for _, c := range []int{0, 1, 999, 1000} {
						x.Steps = a
						if _, e := check(t, x, b, c); e != api.OK {
							t.Errorf("P17.2: %d, %d, %d: %d", a, b, c, e)
						}
					}
				}
			}
		}
	}
}

// A task's cut, its server and its tries say nothing of how much is told.
func TestOtherPartsOfTasks(t *testing.T) {
	for _, cut := range []string{"", root, "no name", named("b"), named("A.b"), named("other")} {
		for _, number := range []int{math.MinInt, -1, 0, 1, 1001, math.MaxInt} {
			x := api.Task{Name: named("a.b.c"), Type: 16, Cut: cut, Known: named("c"), Steps: 1, Server: number, Tries: -number}
			asks(t, "other parts", x, 10, 4, named("b.c"), api.TypeA)
			x.Fallback = true
			asks(t, "other parts, Fallback", x, 10, 4, named("a.b.c"), 16)
		}
	}
}

// Letters are told small, all other bytes as they are; those that differ in their case alone are one.
func TestEachByte(t *testing.T) {
	for a := range 256 {
		label := "x" + string([]byte{byte(a)})
		upper := "\x02" + label + root
		n := "\x02" + label + upper
		asks(t, "a byte", task(n, root, 16, 0), 10, 4, small(upper), api.TypeA)
		asks(t, "a byte, all of it", task(n, upper, 16, 1), 10, 4, small(n), 16)
		for b := range 256 {
			known := "\x02x" + string([]byte{byte(b)}) + root
			if a == b || a|32 == b|32 && a|32 >= 'a' && a|32 <= 'z' {
				asks(t, "bytes that are one", task(n, known, 16, 1), 10, 4, small(n), 16)
			} else {
				refuses(t, "bytes that are two", task(n, known, 16, 1), 10, 4)
			}
		}
	}
}

// near gives names that are near each other, and bytes that are none.
func near() []string {
	out := []string{"", "\x01a", "\x00\x00", "b\x01a\x00"}
	for _, s := range []string{"", "a", "A", "b", "b.a", "B.A", "a.b", "c.b.a", "C.b.A", "b.b.a", "d.c.b.a", "e.d.c.b.a", "ab"} {
		out = append(out, named(s))
	}
	return out
}

func TestEveryTaskOfAFew(t *testing.T) {
	for _, n := range near() {
		for _, known := range near() {
			for _, of := range []int{0, 1, 16, 65535, 65536} {
				for steps := -1; steps < 6; steps++ {
					for count := -1; count < 6; count++ {
						for one := -1; one < 4; one++ {
							x := task(n, known, of, steps)
							check(t, x, count, one)
							x.Fallback = true
							check(t, x, count, one)
						}
					}
				}
			}
		}
	}
}

// some gives a task that is mostly one that may be, and the two numbers beside it.
func some(r *rand.Rand) (api.Task, int, int) {
	var labels []string
	for range r.Intn(10) {
		labels = append(labels, []string{"a", "A", "b", "Bc", "\x00\x01", "zz-9", "_TCP"}[r.Intn(7)])
	}
	n := named(strings.Join(labels, "."))
	all := upwards(n)
	x := task(n, all[r.Intn(len(all))], 1+r.Intn(65535), r.Intn(8))
	x.Cut, x.Server, x.Tries = all[r.Intn(len(all))], r.Intn(3), r.Intn(3)
	x.Fallback = r.Intn(8) == 0
	if r.Intn(2) == 0 {
		x.Known = great(x.Known)
	}
	switch r.Intn(20) {
	case 0:
		x.Name = near()[r.Intn(len(near()))]
	case 1:
		x.Known = near()[r.Intn(len(near()))]
	case 2:
		x.Type = edges()[r.Intn(len(edges()))]
	case 3:
		x.Steps = edges()[r.Intn(len(edges()))]
	case 4:
		return x, edges()[r.Intn(len(edges()))], edges()[r.Intn(len(edges()))]
	}
	return x, r.Intn(9), r.Intn(6)
}

// Random tasks; what is asked for each can be put into a datagram.
func TestSomeTasks(t *testing.T) {
	r := rand.New(rand.NewSource(171))
	whole, part, refused := 0, 0, 0
	for range 60000 {
		x, count, one := some(r)
		step, e := check(t, x, count, one)
		if e != api.OK {
			refused++
			continue
		}
		if step.Name == small(x.Name) {
			whole++
		} else {
			part++
		}
		if q, f := pad.Query(7, step); f != api.OK || len(q)%api.QueryBlock != 0 {
			t.Fatalf("a step that can't be asked: %s: %d", tell(step), f)
		}
	}
	if whole < 9000 || part < 9000 || refused < 3000 {
		t.Errorf("not enough of each kind: %d, %d, %d", whole, part, refused)
	}
}

// What costs most: the longest names, bytes far too long, the greatest numbers.
func TestItEndsSoon(t *testing.T) {
	began := time.Now()
	n := deep(127)
	long := strings.Repeat("\x01a", 1<<20) + root
	for i := range 200000 {
		if s, e := qmin.Next(task(n, n[2*(1+i%127):], 1, i%1001), i%1001, 0); s.Name == "" || e != api.OK {
			t.Fatalf("P17.2: %q, %d", s.Name, e)
		}
		if k, e := qmin.Size(0, 1000, 1+i%1000, 0); k < 1 || e != api.OK {
			t.Fatalf("P17.1: %d, %d", k, e)
		}
	}
	for range 200000 {
		for _, x := range []api.Task{task(long, root, 1, 0), task(n, long, 1, 0), task(long, long, 1, 0)} {
			if s, e := qmin.Next(x, 10, 4); s != (api.Step{}) || e != api.ErrQminForm {
				t.Fatalf("P17.2: no name: %q, %d", s.Name, e)
			}
		}
	}
	if took := time.Since(began); took > 20*time.Second {
		t.Errorf("it took %v", took)
	}
}

func FuzzQmin(f *testing.F) {
	f.Add("\x01a\x01B\x00", "\x01b\x00", 16, 1, false, 10, 4)
	f.Add("\x01a\x01b\x01c\x01d\x00", "\x00", 1, 0, false, 2, 0)
	f.Add("\x01a\x00", "\x01A\x00", 65536, 1001, true, -1, 1000)
	f.Fuzz(func(t *testing.T, n, known string, of, steps int, fallback bool, count, one int) {
		x := task(n, known, of, steps)
		x.Fallback = fallback
		check(t, x, count, one)
		checkSize(t, steps, of, count, one)
	})
}
