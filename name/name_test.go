package name_test

import (
	"fmt"
	"strings"
	"sync"
	"testing"

	"wimple/api"
	"wimple/name"
)

// label gives a label as bytes, its length ahead.
func label(s string) string {
	return string([]byte{byte(len(s))}) + s
}

// join gives the name of these labels.
func join(labels ...string) string {
	out := ""
	for _, l := range labels {
		out += label(l)
	}
	return out + "\x00"
}

// filled gives a name of 255 bytes and one of 256, their labels made of c.
func filled(c string) (whole, more string) {
	long := strings.Repeat(c, api.MaxLabel)
	whole = join(long, long, long, long[:61])
	more = join(long, long, long, long[:62])
	return whole, more
}

// split is the chapter's first sentence, said by recursion: the labels of a name.
func split(n string) ([]string, bool) {
	if n == "\x00" {
		return nil, true
	}
	if len(n) > 255 || n == "" || n[0] == 0 || n[0] > 63 || len(n) <= int(n[0])+1 {
		return nil, false
	}
	size := int(n[0])
	rest, ok := split(n[1+size:])
	return append([]string{n[1 : 1+size]}, rest...), ok
}

// tell is what P1.2 says of Text.
func tell(labels []string) string {
	if len(labels) == 0 {
		return "."
	}
	out := ""
	for _, l := range labels {
		for i := range len(l) {
			if l[i] <= 32 || l[i] >= 127 || l[i] == '.' || l[i] == '\\' {
				out += fmt.Sprintf("\\%03d", l[i])
			} else {
				out += l[i : i+1]
			}
		}
		out += "."
	}
	return out
}

// words gives all texts of at most size pieces.
func words(pieces []string, size int) []string {
	out := []string{""}
	last := out
	for range size {
		var next []string
		for _, w := range last {
			for _, p := range pieces {
				next = append(next, w+p)
			}
		}
		out = append(out, next...)
		last = next
	}
	return out
}

func wantName(t *testing.T, n string, count int) {
	t.Helper()
	if !name.May(n) {
		t.Errorf("P1.1: May(%q) is false", n)
	}
	if got := name.Count(n); got != count {
		t.Errorf("P1.1: Count(%q) is %d, not %d", n, got, count)
	}
}

func wantNoName(t *testing.T, n string) {
	t.Helper()
	if name.May(n) {
		t.Errorf("P1.1: May(%.300q) is true", n)
	}
	if got := name.Count(n); got != 0 {
		t.Errorf("P1.1: Count(%.300q) is %d, not 0", n, got)
	}
	if s, e := name.Text(n); s != "" || e != api.ErrNameForm {
		t.Errorf("P1.2: Text(%.300q) is %q, %d", n, s, e)
	}
}

func wantText(t *testing.T, n, s string) {
	t.Helper()
	if got, e := name.Text(n); got != s || e != api.OK {
		t.Errorf("P1.2: Text(%q) is %q, %d, not %q", n, got, e, s)
	}
	if got, e := name.Parse(s); got != n || e != api.OK {
		t.Errorf("P1.2: Parse(%q) is %q, %d, not %q", s, got, e, n)
	}
}

func wantNoText(t *testing.T, s string) {
	t.Helper()
	if n, e := name.Parse(s); n != "" || e != api.ErrNameForm {
		t.Errorf("P1.2: Parse(%.300q) is %q, %d", s, n, e)
	}
}

func TestNamesAreCounted(t *testing.T) {
	wantName(t, "\x00", 0)
	wantName(t, "\x03com\x00", 1)
	wantName(t, "\x07example\x03com\x00", 2)
	wantName(t, "\x03www\x07Example\x03com\x00", 3)
	wantName(t, "\x01\x00\x00", 1)
	wantName(t, "\x02\x01\x01\x00", 1)
	wantName(t, strings.Repeat("\x01a", 127)+"\x00", 127)
}

func TestOtherBytesAreNoNames(t *testing.T) {
	for _, n := range []string{
		"", "a", "com", "\x01", "\x01a", "\x02a", "\x02a\x00", "\x03com",
		"\x03com\x02a\x00", "\x3f\x00",
		"\x00\x00", "\x00a", "\x00\x01a\x00", "\x01a\x00\x00", "\x01a\x00\x01b\x00",
		"\xc0\x00", "\xc0\x0c", "\x01a\xc0\x00", "\x80\x00", "\xff",
		strings.Repeat("\x00", api.MaxName), strings.Repeat("\x01a", 128) + "\x00",
	} {
		wantNoName(t, n)
	}
}

func TestLengthOfLabels(t *testing.T) {
	for size := 1; size < 256; size++ {
		n := string([]byte{byte(size)}) + strings.Repeat("a", size) + "\x00"
		if size > api.MaxLabel {
			wantNoName(t, n)
			wantNoText(t, strings.Repeat("a", size)+".")
			continue
		}
		wantName(t, n, 1)
		wantText(t, n, strings.Repeat("a", size)+".")
		wantNoName(t, n[:len(n)-1])
		wantNoName(t, n[:len(n)-2]+"\x00")
		wantNoName(t, n+"\x00")
	}
}

func TestLengthOfLabelsInTextsOfManyBytes(t *testing.T) {
	for _, c := range []string{"a", "\\000"} {
		for _, size := range []int{64, 127, 128, 255, 256, 257, 300, 319, 320, 512} {
			wantNoText(t, strings.Repeat(c, size)+".")
			wantNoText(t, "a."+strings.Repeat(c, size)+".")
		}
	}
}

func TestLengthOfNames(t *testing.T) {
	for _, c := range []string{"a", "\x00", "\xff", "."} {
		whole, more := filled(c)
		if len(whole) != api.MaxName || len(more) != api.MaxName+1 {
			t.Fatalf("lengths %d, %d", len(whole), len(more))
		}
		wantName(t, whole, 4)
		labels, _ := split(whole)
		wantText(t, whole, tell(labels))
		wantNoName(t, more)
		long := strings.Repeat(c, api.MaxLabel)
		wantNoText(t, tell([]string{long, long, long, long[:62]}))
		wantNoText(t, tell([]string{long, long, long, long[:61], c}))
	}
	wantText(t, strings.Repeat("\x01a", 127)+"\x00", strings.Repeat("a.", 127))
	wantNoText(t, strings.Repeat("a.", 128))
}

func TestAllShortBytes(t *testing.T) {
	pieces := []string{"\x00", "\x01", "\x02", "\x03", "a", "\x3f", "\x40", "\xc0", "\xff"}
	for _, n := range words(pieces, 5) {
		labels, ok := split(n)
		if !ok {
			wantNoName(t, n)
			continue
		}
		wantName(t, n, len(labels))
		wantText(t, n, tell(labels))
	}
}

func TestOrdinaryTexts(t *testing.T) {
	wantText(t, "\x00", ".")
	wantText(t, "\x03com\x00", "com.")
	wantText(t, "\x03www\x07Example\x03com\x00", "www.Example.com.")
	wantText(t, "\x04_tcp\x05a-b_c\x00", "_tcp.a-b_c.")
	wantText(t, "\x03a.b\x01c\x00", "a\\046b.c.")
	wantText(t, "\x03a\\b\x00", "a\\092b.")
	wantText(t, "\x05\\0461\x00", "\\0920461.")
	wantText(t, "\x02\xc3\xa9\x00", "\\195\\169.")
}

func TestEveryByte(t *testing.T) {
	for c := range 256 {
		n := join(string([]byte{byte(c)}))
		plain := string([]byte{byte(c)}) + "."
		told := fmt.Sprintf("\\%03d.", c)
		if c >= 33 && c <= 126 && c != '.' && c != '\\' {
			wantText(t, n, plain)
			wantNoText(t, told)
		} else {
			wantText(t, n, told)
			wantNoText(t, plain)
		}
	}
}

func TestDigits(t *testing.T) {
	for value := 256; value < 1000; value++ {
		wantNoText(t, fmt.Sprintf("\\%d.", value))
	}
	for c := range 256 {
		if c >= '0' && c <= '9' {
			continue
		}
		d := string([]byte{byte(c)})
		for _, s := range []string{d + "00", "0" + d + "0", "00" + d, "12" + d, "1" + d + "7"} {
			wantNoText(t, "\\"+s+".")
		}
	}
	for _, s := range []string{
		"\\.", "\\0.", "\\00.", "\\0", "\\00", "\\000", "\\0000", "\\1 0.", "\\-01.", "\\+01.",
		"\\0x1.", "\\00a.", "\\a00.", "\\0/0.", "\\0:0.", "\\\\.", "\\..", "a\\.b.",
		"\\٠٠٠.", "\\000\\00.", "\\000\\.",
	} {
		wantNoText(t, s)
	}
}

func TestWrongTexts(t *testing.T) {
	for _, s := range []string{
		"", "a", "a.b", "www.example.com", "..", "...", ".a", ".a.", "a..", "a..b.",
		"a b.", " .", "a. ", " a.", "a.\n", "a\x00.", "\x00", "\x01a\x00", "\x7f.", "\xff.", "é.",
	} {
		wantNoText(t, s)
	}
}

func TestAllShortTexts(t *testing.T) {
	given := map[string]string{}
	for _, n := range words([]string{"\x00", "\x01", "\x02", "\x03", "\x04", "\x05", "\x06", ".", "a", "0"}, 5) {
		if labels, ok := split(n); ok {
			given[tell(labels)] = n
		}
	}
	for _, s := range words([]string{".", "\\", "0", "4", "6", "a", " "}, 6) {
		n, e := name.Parse(s)
		if want, ok := given[s]; ok && (n != want || e != api.OK) {
			t.Errorf("P1.2: Parse(%q) is %q, %d, not %q", s, n, e, want)
		}
		if e == api.OK {
			wantText(t, n, s)
		} else if n != "" || e != api.ErrNameForm {
			t.Errorf("P1.2: Parse(%q) is %q, %d", s, n, e)
		}
	}
}

func TestGreatInputsEnd(t *testing.T) {
	for _, piece := range []string{"a", "a.", ".", "\\", "\\000", "\x00", "\x01a", "\x3f", "\xff"} {
		great := strings.Repeat(piece, 1<<22)
		wantNoName(t, great)
		wantNoName(t, great+"\x00")
		wantNoText(t, great)
		wantNoText(t, great+".")
	}
}

func TestManyCallersAtOneTime(t *testing.T) {
	var all sync.WaitGroup
	for i := range 8 {
		all.Go(func() {
			n := join(strings.Repeat("x", i+1), "a.b")
			want := strings.Repeat("x", i+1) + ".a\\046b."
			for range 200 {
				s, e := name.Text(n)
				back, f := name.Parse(want)
				if s != want || back != n || e != api.OK || f != api.OK || name.Count(n) != 2 {
					t.Errorf("R5: %q: %q, %q", n, s, back)
					return
				}
			}
		})
	}
	all.Wait()
}

func FuzzThereAndBack(f *testing.F) {
	f.Add("\x03www\x07Example\x00")
	f.Add("a\\046b.")
	f.Fuzz(func(t *testing.T, s string) {
		labels, ok := split(s)
		if ok {
			wantName(t, s, len(labels))
			wantText(t, s, tell(labels))
		} else {
			wantNoName(t, s)
		}
		if n, e := name.Parse(s); e == api.OK {
			wantText(t, n, s)
		} else {
			wantNoText(t, s)
		}
	})
}
