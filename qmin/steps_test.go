package qmin_test

import (
	"slices"
	"testing"

	"wimple/api"
	"wimple/name"
	"wimple/qmin"
)

// told gives the names that are told of x one behind the other, each known then, until all of its name is told.
func told(t *testing.T, x api.Task, count, one int) []string {
	t.Helper()
	var out []string
	for left := name.Count(x.Name) - name.Count(x.Known); left > 0; left = name.Count(x.Name) - name.Count(x.Known) {
		step, e := check(t, x, count, one)
		behind := name.Count(x.Name) - name.Count(step.Name)
		if e != api.OK || behind >= left || behind < 0 {
			t.Fatalf("P17.2: %s, %d, %d: %s, %d", tell(x), count, one, tell(step), e)
		}
		// The type is told with the whole name alone.
		if want := kind(x.Type, behind == 0); step.Type != want {
			t.Fatalf("P17.2: %s, %d, %d: %s, want %d", tell(x), count, one, tell(step), want)
		}
		out = append(out, step.Name)
		x.Known = step.Name
		x.Steps++
	}
	return out
}

// kind gives the type of a question.
func kind(own int, whole bool) int {
	if whole {
		return own
	}
	return api.TypeA
}

// below gives what is above n, or n, and below known, the shortest first.
func below(n, known string) []string {
	all := upwards(n)
	all = all[:slices.Index(all, small(known))]
	slices.Reverse(all)
	return all
}

// Names of up to count labels below what is known at first are told label by label, whatever one is.
func TestLabelByLabel(t *testing.T) {
	for count := range 14 {
		for one := range 16 {
			for labels := range count + 1 {
				for upper := range 4 {
					n := deep(labels + upper)
					known := n[2*labels:]
					for _, form := range []string{known, small(known), great(known)} {
						x := task(n, form, api.TypeMx, 0)
						if got := told(t, x, count, one); !slices.Equal(got, below(n, known)) {
							t.Fatalf("P17.3: %d labels below %q, %d, %d: %q", labels, form, count, one, got)
						}
					}
				}
			}
		}
	}
}

// The longest names, and those of one label more than count.
func TestLabelByLabelAtTheLongest(t *testing.T) {
	n := deep(127)
	for _, count := range []int{127, 128, 999, 1000} {
		for _, one := range []int{0, 1, 126, 127, 1000} {
			if got := told(t, task(n, root, 16, 0), count, one); !slices.Equal(got, below(n, root)) {
				t.Errorf("P17.3: %d, %d: %q", count, one, got)
			}
		}
	}
	for count := 1; count < 127; count++ {
		more := deep(count + 1)
		if got := told(t, task(more, root, 16, 0), count, 0); len(got) != count || name.Count(got[0]) != 2 {
			t.Errorf("P17.1: one label more than %d: %q", count, got)
		}
		if got := told(t, task(more, root, 16, 0), count, count-1); len(got) != count || got[count-1] != small(more) {
			t.Errorf("P17.1: one label more than %d, by one: %q", count, got)
		}
		if got := told(t, task(n, root, 16, 0), count, 0); len(got) > count {
			t.Errorf("P17.1: %d: %q", count, got)
		}
	}
}

// Names of more than count labels, step by step.
func TestMoreLabelsThanCount(t *testing.T) {
	for _, c := range []struct {
		labels, count, one int
		want               []int
	}{
		{11, 10, 4, []int{1, 2, 3, 4, 6, 7, 8, 9, 10, 11}},
		{12, 10, 4, []int{1, 2, 3, 4, 6, 8, 9, 10, 11, 12}},
		{16, 10, 4, []int{1, 2, 3, 4, 6, 8, 10, 12, 14, 16}},
		{17, 10, 4, []int{1, 2, 3, 4, 7, 9, 11, 13, 15, 17}},
		{34, 10, 4, []int{1, 2, 3, 4, 9, 14, 19, 24, 29, 34}},
		{127, 10, 4, []int{1, 2, 3, 4, 25, 46, 67, 87, 107, 127}},
		{20, 10, 0, []int{2, 4, 6, 8, 10, 12, 14, 16, 18, 20}},
		{5, 2, 0, []int{3, 5}},
		{5, 2, 1, []int{1, 5}},
		{5, 2, 2, []int{1, 2, 5}},
		{5, 2, 4, []int{1, 2, 3, 4, 5}},
		{5, 1, 0, []int{5}},
		{5, 0, 0, []int{5}},
		{5, 0, 1, []int{1, 5}},
		{5, 0, 3, []int{1, 2, 3, 5}},
		{5, 0, 9, []int{1, 2, 3, 4, 5}},
	} {
		for upper := range 3 {
			if c.labels+upper > 127 {
				continue
			}
			n := deep(c.labels + upper)
			var got []int
			for _, s := range told(t, task(n, n[2*c.labels:], 16, 0), c.count, c.one) {
				got = append(got, name.Count(s)-upper)
			}
			if !slices.Equal(got, c.want) {
				t.Errorf("P17.1: %d labels, %d, %d: %v, want %v", c.labels, c.count, c.one, got, c.want)
			}
		}
	}
}

// A referral makes a step, but tells no label: from there on more is told at once, where too few steps are left.
func TestStepsThatToldNothing(t *testing.T) {
	n := named("a.b.c.d.e.f")
	for _, c := range []struct {
		steps int
		want  string
		of    int
	}{{0, "f", 1}, {4, "f", 1}, {5, "e.f", 1}, {6, "e.f", 1}, {7, "e.f", 1}, {8, "d.e.f", 1}, {9, "a.b.c.d.e.f", 16}, {10, "a.b.c.d.e.f", 16}, {64, "a.b.c.d.e.f", 16}} {
		step, e := qmin.Next(task(n, root, 16, c.steps), 10, 4)
		if step != (api.Step{Name: named(c.want), Type: c.of}) || e != api.OK {
			t.Errorf("P17.2: behind %d steps: %s, %d, want %s", c.steps, tell(step), e, c.want)
		}
	}
}
