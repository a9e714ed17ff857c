package rel_test

import (
	"bytes"
	"math"
	"slices"
	"strings"
	"sync"
	"testing"
	"unsafe"

	"wimple/api"
	"wimple/name"
	"wimple/rel"
)

const root = "\x00"

// join gives the name of these labels.
func join(labels ...string) string {
	out := ""
	for _, l := range labels {
		out += string([]byte{byte(len(l))}) + l
	}
	return out + root
}

// split gives the labels of a name, and whether it is one, by chapter 1's first sentence.
func split(n string) ([]string, bool) {
	if n == root {
		return nil, true
	}
	if len(n) > 255 || n == "" || n[0] == 0 || n[0] > 63 || len(n) <= int(n[0])+1 {
		return nil, false
	}
	size := int(n[0])
	rest, ok := split(n[1+size:])
	return append([]string{n[1 : 1+size]}, rest...), ok
}

// small gives labels with the bytes 65 to 90 made 32 more.
func small(labels []string) []string {
	out := []string{}
	for _, l := range labels {
		b := []byte(l)
		for i := range b {
			if b[i] >= 65 && b[i] <= 90 {
				b[i] += 32
			}
		}
		out = append(out, string(b))
	}
	return out
}

// compare is P2.3, said over labels in reverse.
func compare(a, b string) int {
	x, ok := split(a)
	if !ok {
		x = nil
	}
	y, ok := split(b)
	if !ok {
		y = nil
	}
	x, y = small(x), small(y)
	slices.Reverse(x)
	slices.Reverse(y)
	return slices.CompareFunc(x, y, func(l, m string) int { return bytes.Compare([]byte(l), []byte(m)) })
}

// noNames gives bytes of all kinds that are no name.
func noNames() []string {
	long := strings.Repeat("a", api.MaxLabel)
	return []string{
		"", "a", "com", "\x01", "\x01a", "\x02a\x00", "\x3f\x00", "\x00\x00", "\x00\x01a\x00", "\x01a\x00\x00",
		"\x01a\x00b", "\xc0\x0c", "\x01a\xc0\x00", "\x40" + long + "a\x00", "A" + strings.Repeat("A", 65) + "\x00",
		join(long, long, long, long[:62]), strings.Repeat("\x01a", 128) + root, strings.Repeat("\x00", 1<<20),
	}
}

// someNames gives names of many kinds: the root, every short one of a few labels, and the longest.
func someNames() []string {
	labels := []string{"a", "A", "b", "ab", "aB", "\x00", "\x01a", "z", "Z", "[", "@", "`", "{", "\xff", "\xc1"}
	out := []string{root}
	for _, l := range labels {
		out = append(out, join(l))
		for _, m := range labels {
			out = append(out, join(l, m))
		}
	}
	for _, l := range labels[:6] {
		for _, m := range labels[:6] {
			for _, n := range labels[:6] {
				out = append(out, join(l, m, n))
			}
		}
	}
	long := strings.Repeat("aZ\x00\xff", 16)[:api.MaxLabel]
	return append(out, join(long), join("a", long), join(long, long, long, long[:61]),
		strings.Repeat("\x01a", 127)+root, strings.Repeat("\x01A", 126)+root)
}

func wantForm(t *testing.T, what string, n string, e api.Errno) {
	t.Helper()
	if n != "" || e != api.ErrRelForm {
		t.Errorf("P2.2: %s is %q, %d", what, n, e)
	}
}

func wantIs(t *testing.T, what string, n string, e api.Errno, want string) {
	t.Helper()
	if n != want || e != api.OK {
		t.Errorf("P2.2: %s is %q, %d, not %q", what, n, e, want)
	}
}

func TestFold(t *testing.T) {
	for n, want := range map[string]string{
		root:                       root,
		join("com"):                join("com"),
		join("WWW", "Example"):     join("www", "example"),
		join("A.B", "\x01A"):       join("a.b", "\x01a"),
		join("\xc3\x89", "\xc1@["): join("\xc3\x89", "\xc1@["),
	} {
		if got := rel.Fold(n); got != want {
			t.Errorf("P2.1: Fold(%q) is %q, not %q", n, got, want)
		}
	}
	for _, n := range someNames() {
		labels, _ := split(n)
		if got := rel.Fold(n); got != join(small(labels)...) {
			t.Errorf("P2.1: Fold(%q) is %q", n, got)
		}
	}
	for _, n := range noNames() {
		if got := rel.Fold(n); got != "" {
			t.Errorf("P2.1: Fold(%.300q) is %q", n, got)
		}
	}
}

func TestFoldOfEveryByte(t *testing.T) {
	for c := range 256 {
		want := byte(c)
		if c >= 65 && c <= 90 {
			want += 32
		}
		// The byte is the first, an inner and the last one of a label.
		x, y := string([]byte{byte(c)}), string([]byte{want})
		if got := rel.Fold(join(x+"q"+x+"q"+x, x)); got != join(y+"q"+y+"q"+y, y) {
			t.Errorf("P2.1: byte %d is folded to %q", c, got)
		}
		for d := range 256 {
			e := d
			if d >= 65 && d <= 90 {
				e += 32
			}
			z := string([]byte{byte(d)})
			if got := rel.Same(join("q"+x), join("q"+z)); got != (int(want) == e) {
				t.Errorf("P2.1: Same of the bytes %d and %d is %v", c, d, got)
			}
		}
	}
}

func TestLengthsAreNotFolded(t *testing.T) {
	for size := 1; size <= api.MaxLabel; size++ {
		n := join(strings.Repeat("Q", size), "Z")
		if got, want := rel.Fold(n), join(strings.Repeat("q", size), "z"); got != want {
			t.Errorf("P2.1: Fold(%q) is %q", n, got)
		}
	}
	// A length that is a letter's byte is no label's, so that nothing stands behind it that could be folded.
	for c := byte('A'); c <= 'z'; c++ {
		n := string([]byte{c}) + strings.Repeat("A", int(c)) + root
		m := string([]byte{c ^ 32}) + strings.Repeat("A", int(c^32)) + root
		if rel.Fold(n) != "" || rel.Same(n, n) || rel.Same(n, m) || rel.Above(root, n) {
			t.Errorf("P2.1: a label of %d bytes is folded", c)
		}
	}
}

func TestSameAndAbove(t *testing.T) {
	for _, c := range []struct {
		a, b        string
		same, above bool
	}{
		{root, root, true, true},
		{root, join("com"), false, true},
		{join("com"), root, false, false},
		{join("COM"), join("com"), true, true},
		{join("com"), join("Example", "Com"), false, true},
		{join("example", "com"), join("com"), false, false},
		{join("example", "com"), join("www", "example", "com"), false, true},
		{join("example", "com"), join("www", "example", "org"), false, false},
		{join("ample", "com"), join("example", "com"), false, false},
		{join("www"), join("www", "com"), false, false},
		{join("a", "b"), join("a.b"), false, false},
		// The bytes of a's name end b's one, but not where a label begins.
		{join("b"), join("a\x01b"), false, false},
		{join("\x01b"), join("a\x02\x01b"), false, false},
	} {
		if rel.Same(c.a, c.b) != c.same || rel.Same(c.b, c.a) != c.same || rel.Above(c.a, c.b) != c.above {
			t.Errorf("P2.1: %q, %q: %v, %v", c.a, c.b, rel.Same(c.a, c.b), rel.Above(c.a, c.b))
		}
	}
}

func TestAllPairs(t *testing.T) {
	all := someNames()
	for _, a := range all {
		first, _ := split(a)
		x := small(first)
		for _, b := range all {
			second, _ := split(b)
			y := small(second)
			if got := rel.Same(a, b); got != slices.Equal(x, y) {
				t.Fatalf("P2.1: Same(%q, %q) is %v", a, b, got)
			}
			above := len(x) <= len(y) && slices.Equal(x, y[len(y)-len(x):])
			if got := rel.Above(a, b); got != above {
				t.Fatalf("P2.1: Above(%q, %q) is %v", a, b, got)
			}
			if got := rel.Compare(a, b); got != compare(a, b) || got != -rel.Compare(b, a) {
				t.Fatalf("P2.3: Compare(%q, %q) is %d", a, b, got)
			}
		}
	}
}

func TestNoNamesAreNothingToOthers(t *testing.T) {
	for _, bad := range noNames() {
		for _, n := range append(noNames(), root, join("a"), join("com"), join("a", "com")) {
			if rel.Same(bad, n) || rel.Same(n, bad) || rel.Above(bad, n) || rel.Above(n, bad) {
				t.Errorf("P2.1: %.300q, %.300q", bad, n)
			}
			if got := rel.Compare(bad, n); got != compare(root, n) {
				t.Errorf("P2.3: Compare(%.300q, %.300q) is %d", bad, n, got)
			}
			if got := rel.Compare(n, bad); got != compare(n, root) {
				t.Errorf("P2.3: Compare(%.300q, %.300q) is %d", n, bad, got)
			}
		}
	}
}

func TestParent(t *testing.T) {
	n, e := rel.Parent(join("www", "Example", "com"))
	wantIs(t, "the parent", n, e, join("Example", "com"))
	n, e = rel.Parent(join("com"))
	wantIs(t, "the parent", n, e, root)
	for _, n := range someNames() {
		labels, _ := split(n)
		if p, e := rel.Parent(n); len(labels) == 0 {
			wantForm(t, "the root's parent", p, e)
		} else {
			wantIs(t, "the parent", p, e, join(labels[1:]...))
		}
	}
	for _, n := range noNames() {
		p, e := rel.Parent(n)
		wantForm(t, "the parent of no name", p, e)
	}
}

func TestLast(t *testing.T) {
	full := join("www", "Example", "com")
	for k, want := range []string{root, join("com"), join("Example", "com"), full} {
		n, e := rel.Last(full, k)
		wantIs(t, "the last labels", n, e, want)
	}
	for _, n := range someNames() {
		labels, _ := split(n)
		for k := range len(labels) + 1 {
			got, e := rel.Last(n, k)
			wantIs(t, "the last labels", got, e, join(labels[len(labels)-k:]...))
		}
		for _, k := range []int{-1, -2, -128, -256, len(labels) + 1, len(labels) + 2, 127 + 1, 256, math.MaxInt, math.MinInt} {
			got, e := rel.Last(n, k)
			wantForm(t, "too many labels", got, e)
		}
	}
	for _, n := range noNames() {
		for k := -1; k < 4; k++ {
			got, e := rel.Last(n, k)
			wantForm(t, "the last labels of no name", got, e)
		}
	}
}

func TestChild(t *testing.T) {
	n, e := rel.Child("www", join("Example"))
	wantIs(t, "the child", n, e, join("www", "Example"))
	n, e = rel.Child("A.b\x00\xff", root)
	wantIs(t, "the child", n, e, join("A.b\x00\xff"))
	for _, bad := range noNames() {
		for _, label := range []string{"a", "", strings.Repeat("a", 64)} {
			n, e = rel.Child(label, bad)
			wantForm(t, "the child of no name", n, e)
		}
	}
}

func TestLengthsOfChildren(t *testing.T) {
	for size := range 600 {
		label := strings.Repeat("x", size)
		n, e := rel.Child(label, join("com"))
		if size >= 1 && size <= api.MaxLabel {
			wantIs(t, "the child", n, e, join(label, "com"))
		} else {
			wantForm(t, "the child with such a label", n, e)
		}
	}
	long := strings.Repeat("y", api.MaxLabel)
	for size := 1; size < 62; size++ {
		parent := join(long, long, long, long[:size])
		for more := 1; more <= api.MaxLabel; more++ {
			label := long[:more]
			n, e := rel.Child(label, parent)
			if want := join(label, long, long, long, long[:size]); len(want) <= api.MaxName {
				wantIs(t, "the child", n, e, want)
			} else {
				wantForm(t, "the child that is too long", n, e)
			}
		}
	}
	n, e := rel.Child("b", strings.Repeat("\x01a", 126)+root)
	wantIs(t, "the child", n, e, "\x01b"+strings.Repeat("\x01a", 126)+root)
	n, e = rel.Child("b", strings.Repeat("\x01a", 127)+root)
	wantForm(t, "the child of the longest name", n, e)
}

// TestCanonicalOrder takes the row of RFC 4034, section 6.1, and the edges that the chapter names.
func TestCanonicalOrder(t *testing.T) {
	row := []string{
		root,
		join("example"), join("a", "example"), join("yljkjljk", "a", "example"), join("Z", "a", "example"),
		join("zABC", "a", "EXAMPLE"), join("z", "example"), join("\x01", "z", "example"), join("*", "z", "example"),
		join("\xc8", "z", "example"),
		join("exampleA"), join("exampleb"), join("exbmple"), join("f"), join("\xff"),
	}
	for i, a := range row {
		for j, b := range row {
			want := 0
			if i < j {
				want = -1
			} else if i > j {
				want = 1
			}
			if got := rel.Compare(a, b); got != want {
				t.Errorf("P2.3: Compare(%q, %q) is %d, not %d", a, b, got, want)
			}
		}
	}
	// A longer label does not come behind by its length alone, and case does not count.
	if rel.Compare(join("bbb"), join("c")) != -1 || rel.Compare(join("Www", "COM"), join("wWW", "com")) != 0 {
		t.Error("P2.3: the order hangs on lengths or on case")
	}
	// Great letters come behind the bytes between them and the small ones.
	if rel.Compare(join("Z"), join("[")) != 1 || rel.Compare(join("A"), join("`")) != 1 {
		t.Error("P2.3: labels are not folded ahead of the order")
	}
}

func TestAnswersAreNewMemory(t *testing.T) {
	label, n := strings.Clone("www"), join("a", "com")
	parent, _ := rel.Parent(n)
	last, _ := rel.Last(n, 2)
	child, _ := rel.Child(label, n)
	for _, got := range []string{parent, last, child, rel.Fold(n)} {
		for _, arg := range []string{label, n} {
			from := uintptr(unsafe.Pointer(unsafe.StringData(arg)))
			at := uintptr(unsafe.Pointer(unsafe.StringData(got)))
			if at >= from && at < from+uintptr(len(arg)) {
				t.Errorf("R4: %q lies within %q", got, arg)
			}
		}
	}
}

func TestManyCallersAtOneTime(t *testing.T) {
	var all sync.WaitGroup
	for i := range 8 {
		all.Go(func() {
			label := strings.Repeat("X", i+1)
			n := join(label, "Com")
			for range 200 {
				child, e := rel.Child(label, join("Com"))
				parent, f := rel.Parent(n)
				if child != n || parent != join("Com") || e != api.OK || f != api.OK || !rel.Above(parent, n) ||
					rel.Fold(n) != join(strings.ToLower(label), "com") || rel.Compare(n, parent) != 1 {
					t.Errorf("R5: %q: %q, %q", n, child, parent)
					return
				}
			}
		})
	}
	all.Wait()
}

func FuzzRelations(f *testing.F) {
	f.Add(join("www", "Example"), join("eXample"), 1)
	f.Add("\x01", root, 0)
	f.Fuzz(func(t *testing.T, a, b string, k int) {
		x, ok := split(a)
		y, fine := split(b)
		if ok != name.May(a) || fine != name.May(b) {
			t.Fatalf("P1.1: %q, %q", a, b)
		}
		both := ok && fine
		if got := rel.Same(a, b); got != (both && slices.Equal(small(x), small(y))) {
			t.Errorf("P2.1: Same(%q, %q) is %v", a, b, got)
		}
		above := both && len(x) <= len(y) && slices.Equal(small(x), small(y[len(y)-min(len(x), len(y)):]))
		if got := rel.Above(a, b); got != above {
			t.Errorf("P2.1: Above(%q, %q) is %v", a, b, got)
		}
		if got := rel.Compare(a, b); got != compare(a, b) {
			t.Errorf("P2.3: Compare(%q, %q) is %d", a, b, got)
		}
		last, e := rel.Last(a, k)
		if ok && k >= 0 && k <= len(x) {
			wantIs(t, "the last labels", last, e, join(x[len(x)-k:]...))
		} else {
			wantForm(t, "the last labels", last, e)
		}
		child, e := rel.Child(b, a)
		if ok && len(b) >= 1 && len(b) <= 63 && len(a)+len(b) < 255 {
			wantIs(t, "the child", child, e, join(append([]string{b}, x...)...))
		} else {
			wantForm(t, "the child", child, e)
		}
	})
}
