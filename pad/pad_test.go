package pad_test

import (
	"fmt"
	"math"
	"math/big"
	"math/rand"
	"slices"
	"strings"
	"sync"
	"testing"
	"time"
	"unsafe"

	"wimple/api"
	"wimple/ecs"
	"wimple/opt"
	"wimple/pad"
	"wimple/wire"
)

const root = "\x00"

// nameOf gives the name of the labels.
func nameOf(labels ...string) string {
	out := ""
	for _, l := range labels {
		out += string([]byte{byte(len(l))}) + l
	}
	return out + root
}

// nameOfSize gives a name of so many bytes (not 2: there is none), all of its letters x.
func nameOfSize(size int, x string) string {
	out := ""
	for left := size - 1; left > 0; {
		label := min(left-1, 63)
		if left-1-label == 1 {
			label--
		}
		out += string([]byte{byte(label)}) + strings.Repeat(x, label)
		left -= 1 + label
	}
	return out + root
}

// two gives a number's two bytes, zeros so many bytes 0.
func two(x int) string {
	return string([]byte{byte(x / 256), byte(x % 256)})
}

func zeros(n int) string {
	return strings.Repeat("\x00", n)
}

// bare gives the bytes of an OPT of Size 1232 and no option; withZeros of one whose only option is a padding of so many bytes 0.
func bare() string {
	return root + two(41) + two(1232) + zeros(4) + two(0)
}

func withZeros(k int) string {
	return root + two(41) + two(1232) + zeros(4) + two(4+k) + two(12) + two(k) + zeros(k)
}

// tell shortens what is told.
func tell(x any) string {
	s := fmt.Sprintf("%+q", fmt.Sprintf("%+v", x))
	if len(s) > 400 {
		return s[:400] + ".."
	}
	return s
}

// same says whether two messages are, an empty list and nil being one.
func same(a, b api.Msg) bool {
	return a.Head == b.Head && slices.Equal(a.Qs, b.Qs) && slices.Equal(a.An, b.An) && slices.Equal(a.Ns, b.Ns) && slices.Equal(a.Ar, b.Ar)
}

// mayName is chapter 1's head.
func mayName(n string) bool {
	size := len(n)
	for n != "" && n[0] >= 1 && n[0] <= 63 && len(n) > int(n[0]) {
		n = n[1+n[0]:]
	}
	return n == root && size <= 255
}

// folded is chapter 2's head: no length of a label is as great as a letter.
func folded(n string) string {
	out := []byte(n)
	for i, c := range out {
		if c >= 65 && c <= 90 {
			out[i] = c + 32
		}
	}
	return string(out)
}

// wantRoom is P10.1, by numbers of any size.
func wantRoom(size, block int) int {
	if size < 0 || block < 1 {
		return 0
	}
	sum := new(big.Int).Add(big.NewInt(int64(size)), big.NewInt(4))
	return int(new(big.Int).Mod(sum.Neg(sum), big.NewInt(int64(block))).Int64())
}

// wantPadded lays the OPT behind s that makes it a multiple of the block, trying one byte 0 more and more.
func wantPadded(s string, block int) string {
	k := 0
	for (len(s)+15+k)%block != 0 {
		k++
	}
	return s + withZeros(k)
}

// wantQuery is P10.2, byte by byte.
func wantQuery(id int, s api.Step) (string, api.Errno) {
	if id < 0 || id > 65535 || !mayName(s.Name) || s.Type < 1 || s.Type > 65535 {
		return "", api.ErrPadForm
	}
	return wantPadded(two(id)+"\x00\x00"+two(1)+two(0)+two(0)+two(1)+folded(s.Name)+two(s.Type)+two(1), 128), api.OK
}

// oneMore gives the bytes of a message with one additional more in its count.
func oneMore(s string) string {
	return s[:10] + two(int(s[10])*256+int(s[11])+1) + s[12:]
}

// cutBytes gives the bytes of the message m, which are s, up to where its questions end, with Tc and without the other counts.
func cutBytes(m api.Msg, s string) string {
	head, _ := wire.Put(api.Msg{Qs: m.Qs})
	return s[:2] + string([]byte{s[2] | 2, s[3]}) + s[4:6] + zeros(6) + s[12:len(head)]
}

// forms gives the three forms of P10.3, whatever their lengths: they are made of the bytes of m.
func forms(m api.Msg, edns bool) ([]string, api.Errno) {
	whole, e := wire.Put(m)
	switch {
	case e == api.ErrWireForm:
		return nil, api.ErrPadForm
	case e == api.ErrWireLong:
		return nil, api.ErrPadLong
	case !edns:
		cut := cutBytes(m, whole)
		return []string{whole, cut, cut}, api.OK
	case len(m.Ar) == 64:
		return nil, api.ErrPadForm
	}
	cut := oneMore(cutBytes(m, whole))
	return []string{wantPadded(oneMore(whole), 468), wantPadded(cut, 468), cut + bare()}, api.OK
}

// wantAnswer is P10.3.
func wantAnswer(m api.Msg, edns bool, most int) (string, api.Errno) {
	all, e := forms(m, edns)
	if e != api.OK {
		return "", e
	}
	for _, s := range all {
		if len(s) <= most && len(s) <= 4096 {
			return s, api.OK
		}
	}
	return "", api.ErrPadLong
}

// checkRoom holds Room against P10.1.
func checkRoom(t *testing.T, size, block int) {
	t.Helper()
	if got, want := pad.Room(size, block), wantRoom(size, block); got != want {
		t.Fatalf("P10.1: Room(%d, %d) = %d, want %d", size, block, got, want)
	}
}

// checkQuery holds Query against P10.2.
func checkQuery(t *testing.T, id int, s api.Step) (string, api.Errno) {
	t.Helper()
	got, e := pad.Query(id, s)
	if want, f := wantQuery(id, s); got != want || e != f {
		t.Fatalf("P10.2: Query(%d, %s) = %s, %d, want %s, %d", id, tell(s), tell(got), e, tell(want), f)
	}
	return got, e
}

// checkAnswer holds Answer against P10.3.
func checkAnswer(t *testing.T, m api.Msg, edns bool, most int) (string, api.Errno) {
	t.Helper()
	got, e := pad.Answer(m, edns, most)
	if want, f := wantAnswer(m, edns, most); got != want || e != f {
		t.Fatalf("P10.3: Answer(%s, %t, %d) = %d bytes %s, %d, want %d bytes %s, %d", tell(m), edns, most, len(got), tell(got), e, len(want), tell(want), f)
	}
	return got, e
}

// checkSides holds Answer against P10.3 with most at each side of each form's length and of what else means something.
func checkSides(t *testing.T, m api.Msg) {
	t.Helper()
	for _, edns := range []bool{false, true} {
		mosts := []int{math.MinInt, -4097, -1, 0, 1, 11, 12, 13, 467, 468, 469, 511, 512, 513, 936, 1232, 3743, 3744, 3745, 4095, 4096, 4097, 4211, 4212, 4213, 4680, 65535, math.MaxInt}
		all, _ := forms(m, edns)
		for _, s := range all {
			mosts = append(mosts, len(s)-1, len(s), len(s)+1)
		}
		for _, most := range mosts {
			checkAnswer(t, m, edns, most)
		}
	}
}

func TestRoomOrdinary(t *testing.T) {
	for _, c := range [][3]int{
		{0, 128, 124}, {1, 128, 123}, {17, 128, 107}, {100, 128, 24},
		{123, 128, 1}, {124, 128, 0}, {125, 128, 127}, {127, 128, 125}, {128, 128, 124}, {251, 128, 1}, {252, 128, 0}, {253, 128, 127},
		{463, 468, 1}, {464, 468, 0}, {465, 468, 467}, {931, 468, 1}, {932, 468, 0}, {933, 468, 467},
		{0, 1, 0}, {1, 1, 0}, {4096, 1, 0}, {0, 2, 0}, {1, 2, 1}, {0, 3, 2}, {1, 3, 1}, {2, 3, 0}, {3, 3, 2}, {0, 4, 0}, {1, 4, 3}, {3, 4, 1}, {0, 5, 1}, {1, 5, 0}, {2, 5, 4},
	} {
		if got := pad.Room(c[0], c[1]); got != c[2] {
			t.Errorf("P10.1: Room(%d, %d) = %d, want %d", c[0], c[1], got, c[2])
		}
	}
}

// Every small size and block, those that are none too: the least number is found by trying.
func TestRoomSmall(t *testing.T) {
	for block := -5; block <= 300; block++ {
		for size := -5; size <= 700; size++ {
			k := 0
			for size >= 0 && block >= 1 && (size+4+k)%block != 0 {
				k++
			}
			if got := pad.Room(size, block); got != k {
				t.Fatalf("P10.1: Room(%d, %d) = %d, want %d", size, block, got, k)
			}
		}
	}
	for _, block := range []int{128, 468} {
		for size := range 10000 {
			checkRoom(t, size, block)
		}
	}
}

// Both sides of many multiples, and of the multiples less what stands ahead of an option's bytes.
func TestRoomAboutMultiples(t *testing.T) {
	for _, block := range []int{1, 2, 3, 4, 5, 6, 7, 8, 127, 128, 129, 467, 468, 469, 4096, 65535, 65536, 1<<31 - 1, 1 << 31, 1 << 40} {
		for _, times := range []int{1, 2, 3, 10, 1000, 1 << 20} {
			for d := -9; d <= 9; d++ {
				checkRoom(t, block*times+d, block)
			}
		}
	}
}

// The greatest numbers that an int holds, where the sum is no int any more.
func TestRoomGreatest(t *testing.T) {
	for _, c := range [][3]int{
		{math.MaxInt, 1, 0}, {math.MaxInt, 2, 1}, {math.MaxInt, 8, 5}, {math.MaxInt, 128, 125},
		{math.MaxInt - 3, 8, 0}, {math.MaxInt - 4, 8, 1}, {math.MaxInt - 2, 8, 7},
		{0, math.MaxInt, math.MaxInt - 4}, {1, math.MaxInt, math.MaxInt - 5},
		{math.MaxInt, math.MaxInt, math.MaxInt - 4}, {math.MaxInt - 1, math.MaxInt, math.MaxInt - 3}, {math.MaxInt - 3, math.MaxInt, math.MaxInt - 1},
		{math.MaxInt - 4, math.MaxInt, 0}, {math.MaxInt - 5, math.MaxInt, 1}, {math.MaxInt, math.MaxInt - 1, math.MaxInt - 6},
	} {
		if got := pad.Room(c[0], c[1]); got != c[2] {
			t.Errorf("P10.1: Room(%d, %d) = %d, want %d", c[0], c[1], got, c[2])
		}
	}
	var numbers []int
	for d := range 12 {
		numbers = append(numbers, math.MaxInt-d, math.MaxInt/2-d, math.MaxInt/2+d, 1<<32-d, 1<<32+d, 1<<31+d, 1<<31-d, d, 128+d, 468-d)
	}
	for _, size := range numbers {
		for _, block := range numbers {
			checkRoom(t, size, block)
		}
	}
}

func TestRoomOfNothing(t *testing.T) {
	for _, c := range [][2]int{
		{-1, 128}, {-4, 128}, {-5, 128}, {-128, 128}, {math.MinInt, 128}, {-1, 1}, {-1, math.MaxInt}, {math.MinInt, math.MaxInt},
		{0, 0}, {8, 0}, {8, -1}, {8, -3}, {8, math.MinInt}, {0, -128}, {math.MaxInt, 0}, {math.MaxInt, -1}, {math.MaxInt, math.MinInt},
		{-1, 0}, {-1, -1}, {math.MinInt, math.MinInt}, {math.MinInt, -1},
	} {
		if got := pad.Room(c[0], c[1]); got != 0 {
			t.Errorf("P10.1: Room(%d, %d) = %d", c[0], c[1], got)
		}
	}
}

func TestQueryOrdinary(t *testing.T) {
	for _, c := range []struct {
		what string
		id   int
		s    api.Step
		want string
	}{
		{
			"an address", 0x1234, api.Step{Name: nameOf("www", "example"), Type: api.TypeA},
			"\x12\x34\x00\x00\x00\x01\x00\x00\x00\x00\x00\x01" + "\x03www\x07example\x00\x00\x01\x00\x01" +
				"\x00\x00\x29\x04\xd0\x00\x00\x00\x00\x00\x58\x00\x0c\x00\x54" + zeros(84),
		},
		{
			"great letters", 7, api.Step{Name: nameOf("WwW", "EXAMPLE"), Type: api.TypeMx},
			"\x00\x07\x00\x00\x00\x01\x00\x00\x00\x00\x00\x01" + "\x03www\x07example\x00\x00\x0f\x00\x01" +
				"\x00\x00\x29\x04\xd0\x00\x00\x00\x00\x00\x58\x00\x0c\x00\x54" + zeros(84),
		},
		{
			"the root, the greatest numbers", 65535, api.Step{Name: root, Type: 65535},
			"\xff\xff\x00\x00\x00\x01\x00\x00\x00\x00\x00\x01" + "\x00\xff\xff\x00\x01" +
				"\x00\x00\x29\x04\xd0\x00\x00\x00\x00\x00\x64\x00\x0c\x00\x60" + zeros(96),
		},
		{
			"the least numbers, a name twice the same label", 0, api.Step{Name: nameOf("a", "a"), Type: 1},
			"\x00\x00\x00\x00\x00\x01\x00\x00\x00\x00\x00\x01" + "\x01a\x01a\x00\x00\x01\x00\x01" +
				"\x00\x00\x29\x04\xd0\x00\x00\x00\x00\x00\x60\x00\x0c\x00\x5c" + zeros(92),
		},
	} {
		if got, e := pad.Query(c.id, c.s); got != c.want || e != api.OK || len(got) != 128 {
			t.Errorf("P10.2: %s: %s, %d, want %s", c.what, tell(got), e, tell(c.want))
		}
		checkQuery(t, c.id, c.s)
	}
}

// Names of every length: all is a multiple, and one block fewer has no room for it; each number of zeros comes.
func TestQueryEveryLength(t *testing.T) {
	rooms, blocks := map[int]int{}, map[int]int{}
	for size := 1; size <= 255; size++ {
		if size == 2 {
			continue
		}
		n := nameOfSize(size, "Q")
		if !mayName(n) || len(n) != size {
			t.Fatalf("no name of %d bytes: %q", size, n)
		}
		s, e := checkQuery(t, size, api.Step{Name: n, Type: size})
		least := 12 + size + 4 + 11 + 4
		if e != api.OK || len(s)%128 != 0 || len(s) < least || len(s)-128 >= least {
			t.Fatalf("P10.2: a name of %d bytes: %d bytes, %d", size, len(s), e)
		}
		rooms[len(s)-least]++
		blocks[len(s)]++
	}
	if len(rooms) != 128 || len(blocks) != 3 || blocks[128] != 96 || blocks[256] != 128 || blocks[384] != 30 {
		t.Errorf("P10.2: %v, %v", rooms, blocks)
	}
}

// The longest name, by labels of one byte and by the longest, and one byte more of either.
func TestQueryLongestNames(t *testing.T) {
	ones := strings.Repeat("\x01A", 127) + root
	long := nameOf(strings.Repeat("A", 63), strings.Repeat("b", 63), strings.Repeat("C", 63), strings.Repeat("d", 61))
	for _, n := range []string{ones, long} {
		if s, e := checkQuery(t, 5, api.Step{Name: n, Type: 1}); len(n) != 255 || len(s) != 384 || e != api.OK {
			t.Errorf("P10.2: %s: %d bytes, %d", tell(n), len(s), e)
		}
	}
	for _, n := range []string{"\x01a" + ones, "\x02aa" + ones[2:], nameOf(strings.Repeat("A", 63), strings.Repeat("b", 63), strings.Repeat("C", 63), strings.Repeat("d", 62))} {
		if s, e := pad.Query(5, api.Step{Name: n, Type: 1}); s != "" || e != api.ErrPadForm {
			t.Errorf("P10.2: %s: %d bytes, %d", tell(n), len(s), e)
		}
	}
}

// noNames gives bytes that are no name.
func noNames() []string {
	return []string{
		"", "a", "www.example.", "\x01", "\x01a", "\x03ab", "\x03ab\x00", "\x00\x00", "\x01a\x00\x00", "\x01a\x00b", "\x00\x01a\x00",
		"\x40" + strings.Repeat("a", 64) + root, "\x80" + strings.Repeat("a", 128) + root, "\xc0\x0c", "\x01a\xc0\x0c", "\x01A\xc0\x00\x00", "\xff",
		strings.Repeat("\x01a", 128) + root, strings.Repeat("\x01a", 127), strings.Repeat("\x00", 255), strings.Repeat("\x01a", 1<<16) + root,
	}
}

func TestQueryNoNames(t *testing.T) {
	for _, n := range noNames() {
		if s, e := pad.Query(1, api.Step{Name: n, Type: 1}); s != "" || e != api.ErrPadForm {
			t.Errorf("P10.2: %s: %s, %d", tell(n), tell(s), e)
		}
		checkQuery(t, 1, api.Step{Name: n, Type: 1})
		checkQuery(t, -1, api.Step{Name: n})
	}
}

// edges gives numbers at both sides of those that have 16 bits, and such as would have them if higher bits were let go.
func edges() []int {
	return []int{math.MinInt, math.MinInt + 1, -1 << 32, -65537, -65536, -65535, -2, -1, 0, 1, 2, 255, 256, 257, 32767, 32768, 65534, 65535, 65536, 65537, 1<<32 - 1, 1 << 32, 1<<32 + 1, 1<<48 + 1, math.MaxInt - 1, math.MaxInt}
}

// Each number of an edge with each other one, and with a name that is none.
func TestQueryNumbersAtTheirEdges(t *testing.T) {
	for _, id := range edges() {
		for _, kind := range edges() {
			for _, n := range []string{root, nameOf("A", "b"), "\x01a", ""} {
				s, e := checkQuery(t, id, api.Step{Name: n, Type: kind})
				may := id >= 0 && id <= 65535 && kind >= 1 && kind <= 65535 && n[max(0, len(n)-1):] == root
				if may != (e == api.OK) || !may && (s != "" || e != api.ErrPadForm) {
					t.Fatalf("P10.2: Query(%d, %s %d) = %s, %d", id, tell(n), kind, tell(s), e)
				}
			}
		}
	}
}

// Every id and every type is told.
func TestQueryEveryNumber(t *testing.T) {
	n := nameOf("x")
	for x := range 1 << 16 {
		s, e := pad.Query(x, api.Step{Name: n, Type: 65535 - x})
		if x == 65535 {
			if s != "" || e != api.ErrPadForm {
				t.Errorf("P10.2: the type 0: %s, %d", tell(s), e)
			}
			continue
		}
		if e != api.OK || len(s) != 128 || s[:2] != two(x) || s[15:17] != two(65535-x) || s[17:19] != "\x00\x01" {
			t.Fatalf("P10.2: Query(%d, type %d) = %s, %d", x, 65535-x, tell(s), e)
		}
	}
}

// Each byte of a label is as it was, but for great letters; each length of a label stays.
func TestQueryFolds(t *testing.T) {
	for b := range 256 {
		n := nameOf(string([]byte{byte(b), 'Z', byte(b)}), "A")
		s, _ := checkQuery(t, 9, api.Step{Name: n, Type: 1})
		c := byte(b)
		if b >= 'A' && b <= 'Z' {
			c = byte(b) + 32
		}
		if s[12:18] != "\x03"+string([]byte{c, 'z', c})+"\x01a" {
			t.Errorf("P10.2: the byte %d: %s", b, tell(s))
		}
	}
	for size := 1; size <= 63; size++ {
		great, small := nameOf(strings.Repeat("M", size)), nameOf(strings.Repeat("m", size))
		a, e := checkQuery(t, 3, api.Step{Name: great, Type: 1})
		b, f := checkQuery(t, 3, api.Step{Name: small, Type: 1})
		if a != b || e != api.OK || f != api.OK || a[12:12+len(small)] != small {
			t.Errorf("P10.2: a label of %d bytes: %s, %s", size, tell(a), tell(b))
		}
	}
}

// someName gives a name of few labels, of letters in both cases and of any bytes.
func someName(r *rand.Rand) string {
	out := ""
	for range r.Intn(6) {
		label := make([]byte, 1+r.Intn([]int{3, 12, 63}[r.Intn(3)]))
		r.Read(label)
		for i, c := range label {
			if r.Intn(4) > 0 {
				label[i] = "abyzABYZ"[c%8]
			}
		}
		if 2+len(out)+len(label) <= 255 {
			out += string([]byte{byte(len(label))}) + string(label)
		}
	}
	return out + root
}

// What a query says is read again by layers 7 and 8, and it says nothing else (T3).
func TestQueryIsRead(t *testing.T) {
	r := rand.New(rand.NewSource(10))
	for range 5000 {
		id, step := r.Intn(1<<16), api.Step{Name: someName(r), Type: 1 + r.Intn(65535)}
		s, e := checkQuery(t, id, step)
		m, f := wire.Get(s)
		o, count := opt.Find(m)
		if e != api.OK || f != api.OK || count != 1 || len(s)%128 != 0 || ecs.Has(o) {
			t.Fatalf("P10.2: %s: %d, %d, %d OPTs", tell(step), e, f, count)
		}
		want := api.Msg{
			Head: api.Head{Id: id},
			Qs:   []api.Question{{Name: folded(step.Name), Type: step.Type, Class: 1}},
			Ar:   []api.Rr{{Name: root, Type: 41, Class: 1232, Data: m.Ar[0].Data}},
		}
		if !same(m, want) || len(o.Options) != 1 || o.Options[0].Code != 12 || strings.Trim(o.Options[0].Data, "\x00") != "" {
			t.Fatalf("P10.2: %s: %s", tell(step), tell(m))
		}
	}
}

// record gives one of Type 99 with so many bytes of data; its name is a pointer behind a question of the same name.
func record(n string, size int) api.Rr {
	return api.Rr{Name: n, Type: 99, Class: 1, Ttl: 60, Data: strings.Repeat("d", size)}
}

// answerOf gives a message with one question and one answer with so many bytes of data: 31 bytes and these.
func answerOf(size int) api.Msg {
	a := nameOf("a")
	return api.Msg{Head: api.Head{Id: 5, Qr: true, Ra: true}, Qs: []api.Question{{Name: a, Type: 99, Class: 1}}, An: []api.Rr{record(a, size)}}
}

// questionsOf gives a message of questions alone, whose bytes are so many (from 100 on).
func questionsOf(size int) api.Msg {
	m := api.Msg{Head: api.Head{Id: 6, Qr: true}}
	left := size - 12
	for i := 0; left > 0; i++ {
		// Each name begins with a letter of its own, and no rest of one is another's: nothing is pointed to.
		n := min(left-4, 255)
		if rest := left - 4 - n; rest > 0 && rest < 60 {
			n -= 60
		}
		m.Qs = append(m.Qs, api.Question{Name: nameOfSize(n, string([]byte{byte('a' + i)})), Type: 1, Class: 1})
		left -= n + 4
	}
	return m
}

// full gives a message with all parts, each flag set, whose Ar has an OPT of its own.
func full() api.Msg {
	www, example, ns := nameOf("wWw", "Example"), nameOf("Example"), nameOf("ns", "Example")
	return api.Msg{
		Head: api.Head{Id: 0xbeef, Qr: true, Op: 5, Aa: true, Rd: true, Ra: true, Z: 5, Rcode: 3},
		Qs:   []api.Question{{Name: www, Type: 1, Class: 1}, {Name: example, Type: 255, Class: 3}},
		An:   []api.Rr{{Name: www, Type: 5, Class: 1, Ttl: 7, Data: ns}, {Name: ns, Type: 1, Class: 1, Ttl: 8, Data: "abcd"}},
		Ns:   []api.Rr{{Name: example, Type: 2, Class: 1, Ttl: 9, Data: ns}},
		Ar:   []api.Rr{{Name: ns, Type: 1, Class: 1, Ttl: 1<<32 - 1, Data: "efgh"}, {Name: root, Type: 41, Class: 4096, Ttl: 32768, Data: "\x00\x08\x00\x00"}},
	}
}

func TestAnswerOrdinary(t *testing.T) {
	top, question := "\x00\x05\x80\x80\x00\x01\x00\x01\x00\x00\x00\x00", "\x01a\x00\x00\x63\x00\x01"
	answer := "\xc0\x0c\x00\x63\x00\x01\x00\x00\x00\x3c\x00\x03ddd"
	cutTop := "\x00\x05\x82\x80\x00\x01\x00\x00\x00\x00\x00"
	for _, c := range []struct {
		what string
		edns bool
		most int
		want string
		code api.Errno
	}{
		{"without EDNS", false, 512, top + question + answer, api.OK},
		{"without EDNS, just room", false, 34, top + question + answer, api.OK},
		{"without EDNS, one byte too few", false, 33, cutTop + "\x00" + question, api.OK},
		{"without EDNS, just room for the cut one", false, 19, cutTop + "\x00" + question, api.OK},
		{"without EDNS, one byte too few for the cut one", false, 18, "", api.ErrPadLong},
		{"with EDNS", true, 1232, top[:11] + "\x01" + question + answer + withZeros(468-34-15), api.OK},
		{"with EDNS, just room", true, 468, top[:11] + "\x01" + question + answer + withZeros(468-34-15), api.OK},
		{"with EDNS, one byte too few", true, 467, cutTop + "\x01" + question + bare(), api.OK},
		{"with EDNS, just room for the cut one", true, 30, cutTop + "\x01" + question + bare(), api.OK},
		{"with EDNS, one byte too few for the cut one", true, 29, "", api.ErrPadLong},
	} {
		if got, e := pad.Answer(answerOf(3), c.edns, c.most); got != c.want || e != c.code {
			t.Errorf("P10.3: %s: %s, %d, want %s, %d", c.what, tell(got), e, tell(c.want), c.code)
		}
		checkAnswer(t, answerOf(3), c.edns, c.most)
	}
	// The whole has two blocks, the cut one has one.
	long := answerOf(423)
	for most, size := range map[int]int{1232: 936, 936: 936, 935: 468, 468: 468, 467: 30, 30: 30} {
		if got, e := pad.Answer(long, true, most); len(got) != size || e != api.OK || (got[2]&2 == 0) != (size == 936) {
			t.Errorf("P10.3: two blocks within %d: %d bytes, %d", most, len(got), e)
		}
	}
}

// Messages of many kinds, most at each side of all.
func TestAnswerKinds(t *testing.T) {
	tc, empty := full(), api.Msg{}
	tc.Head.Tc = true
	for _, m := range []api.Msg{
		empty, {Head: api.Head{Id: 65535, Tc: true}}, full(), tc, answerOf(0), answerOf(1),
		{Ar: []api.Rr{record(root, 3)}}, {Ns: []api.Rr{record(nameOf("a", "b"), 3), record(nameOf("b"), 3)}},
		{Qs: []api.Question{{Name: root, Type: 1, Class: 65535}}, An: []api.Rr{record(nameOf("b"), 3)}, Ar: []api.Rr{{Name: root, Type: 41, Class: 1232}}},
		{Qs: slices.Repeat([]api.Question{{Name: nameOf("a"), Type: 1, Class: 1}}, 64)},
		{Qs: slices.Repeat([]api.Question{{Name: nameOf("a"), Type: 1, Class: 1}}, 64), Ar: slices.Repeat([]api.Rr{record(nameOf("a"), 1)}, 63)},
	} {
		checkSides(t, m)
		for most := -3; most <= 520; most++ {
			checkAnswer(t, m, false, most)
			checkAnswer(t, m, true, most)
		}
	}
	if s, e := pad.Answer(empty, false, 12); s != zeros(12) || e != api.OK {
		t.Errorf("P10.3: nothing within 12: %s, %d", tell(s), e)
	}
	for most := -2; most < 12; most++ {
		if s, e := pad.Answer(empty, false, most); s != "" || e != api.ErrPadLong {
			t.Errorf("P10.3: nothing within %d: %s, %d", most, tell(s), e)
		}
	}
}

// Answers of every length up to those that have no room: the padded one is a multiple, and one block fewer has no room for it.
func TestAnswerEveryLength(t *testing.T) {
	for size := 0; size <= 4065+5; size++ {
		m := answerOf(size)
		for _, most := range []int{512, 1232, 4096, math.MaxInt} {
			checkAnswer(t, m, false, most)
			s, e := checkAnswer(t, m, true, most)
			least := 31 + size + 15
			if whole := e == api.OK && s[2]&2 == 0; whole && (len(s)%468 != 0 || len(s) < least || len(s)-468 >= least) {
				t.Fatalf("P10.3: %d bytes of data within %d: %d bytes", size, most, len(s))
			}
		}
	}
}

// Every room there is, for answers of one block, of two, of three, of the most.
func TestAnswerEveryRoom(t *testing.T) {
	for _, m := range []api.Msg{full(), answerOf(422), answerOf(423), answerOf(890), answerOf(1000), answerOf(3698)} {
		for most := -1; most <= 4300; most++ {
			checkAnswer(t, m, false, most)
			checkAnswer(t, m, true, most)
		}
	}
}

// What has room but for its padding is cut: 4,212 is the first multiple above MaxMessage.
func TestAnswerTooLongByItsPadding(t *testing.T) {
	for _, c := range []struct {
		size int
		edns bool
		want int
		cut  bool
		code api.Errno
	}{
		{3744 - 46, true, 3744, false, api.OK},
		{3745 - 46, true, 468, true, api.OK},
		{4096 - 46, true, 468, true, api.OK},
		{4097 - 46, true, 468, true, api.OK},
		{4096 - 42, true, 468, true, api.OK},
		{4097 - 42, true, 468, true, api.OK},
		{4096 - 31, true, 468, true, api.OK},
		{4097 - 31, true, 0, false, api.ErrPadLong},
		{4096 - 31, false, 4096, false, api.OK},
		{4097 - 31, false, 0, false, api.ErrPadLong},
	} {
		for _, most := range []int{4096, 4097, 4211, 4212, 4213, 5000, 1 << 20, math.MaxInt} {
			s, e := pad.Answer(answerOf(c.size), c.edns, most)
			if len(s) != c.want || e != c.code || e == api.OK && (s[2]&2 != 0) != c.cut {
				t.Errorf("P10.3: %d bytes of data, %t, within %d: %d bytes, %d", c.size, c.edns, most, len(s), e)
			}
		}
		checkSides(t, answerOf(c.size))
	}
}

// Questions that are so long that no block, or no OPT, has room behind them.
func TestAnswerLongQuestions(t *testing.T) {
	for _, c := range []struct {
		size int
		want int
		tc   bool
		code api.Errno
	}{
		{453, 468, false, api.OK},
		{454, 936, false, api.OK},
		{3744 - 15, 3744, false, api.OK},
		{3745 - 15, 3745 - 4, true, api.OK},
		{4096 - 15, 4096 - 4, true, api.OK},
		{4097 - 15, 4097 - 4, true, api.OK},
		{4095 - 11, 4095, true, api.OK},
		{4096 - 11, 4096, true, api.OK},
		{4097 - 11, 0, false, api.ErrPadLong},
		{4096, 0, false, api.ErrPadLong},
		{4097, 0, false, api.ErrPadLong},
	} {
		m := questionsOf(c.size)
		if s, e := wire.Put(m); len(s) != c.size && e == api.OK || (e == api.OK) != (c.size <= 4096) || len(m.Qs) > 64 {
			t.Fatalf("%d bytes of questions are %d, %d", c.size, len(s), e)
		}
		for _, most := range []int{4096, 4097, math.MaxInt} {
			s, e := pad.Answer(m, true, most)
			if len(s) != c.want || e != c.code || e == api.OK && (s[2]&2 != 0) != c.tc {
				t.Errorf("P10.3: %d bytes of questions within %d: %d bytes, %d", c.size, most, len(s), e)
			}
			if s, e := pad.Answer(m, false, most); (e == api.OK) != (c.size <= 4096) || e == api.OK && (len(s) != c.size || s[2]&2 != 0) {
				t.Errorf("P10.3: %d bytes of questions within %d, without EDNS: %d bytes, %d", c.size, most, len(s), e)
			}
		}
		checkSides(t, m)
		// The room of the whole is gone, and so none is left for the cut one, which is as long.
		checkSides(t, api.Msg{Head: m.Head, Qs: m.Qs, Ar: []api.Rr{record(root, 0)}})
	}
}

// wrongForms gives messages each of which layer 7 refuses with ErrWireForm, many of them too long besides.
func wrongForms() map[string]api.Msg {
	out := map[string]api.Msg{}
	add := func(what string, change func(m *api.Msg)) {
		short, long := full(), full()
		change(&short)
		out[what] = short
		long.Ns = slices.Repeat([]api.Rr{record(root, 60000)}, 5)
		change(&long)
		out[what+", too long"] = long
	}
	for _, x := range []int{-1, 1 << 16, math.MinInt, math.MaxInt} {
		add(fmt.Sprint("Id ", x), func(m *api.Msg) { m.Head.Id = x })
		add(fmt.Sprint("Op ", x), func(m *api.Msg) { m.Head.Op = x })
		add(fmt.Sprint("Z ", x), func(m *api.Msg) { m.Head.Z = x })
		add(fmt.Sprint("Rcode ", x), func(m *api.Msg) { m.Head.Rcode = x })
		add(fmt.Sprint("a question's type ", x), func(m *api.Msg) { m.Qs[1].Type = x })
		add(fmt.Sprint("a question's class ", x), func(m *api.Msg) { m.Qs[1].Class = x })
		add(fmt.Sprint("an answer's type ", x), func(m *api.Msg) { m.An[1].Type = x })
		add(fmt.Sprint("an authority's class ", x), func(m *api.Msg) { m.Ns[0].Class = x })
		add(fmt.Sprint("an additional's class ", x), func(m *api.Msg) { m.Ar[1].Class = x })
	}
	for _, x := range []int{-1, 1 << 32} {
		add(fmt.Sprint("an answer's Ttl ", x), func(m *api.Msg) { m.An[0].Ttl = x })
		add(fmt.Sprint("an additional's Ttl ", x), func(m *api.Msg) { m.Ar[0].Ttl = x })
	}
	for i, n := range noNames() {
		add(fmt.Sprint("a question's name ", i), func(m *api.Msg) { m.Qs[0].Name = n })
		add(fmt.Sprint("an answer's name ", i), func(m *api.Msg) { m.An[0].Name = n })
		add(fmt.Sprint("an authority's name ", i), func(m *api.Msg) { m.Ns[0].Name = n })
		add(fmt.Sprint("an additional's name ", i), func(m *api.Msg) { m.Ar[0].Name = n })
	}
	add("a question's type 0", func(m *api.Msg) { m.Qs[0].Type = 0 })
	add("an answer's type 0", func(m *api.Msg) { m.An[0].Type = 0 })
	add("an answer's data", func(m *api.Msg) { m.An[1].Data = "abcde" })
	add("an additional's data", func(m *api.Msg) { m.Ar[0].Data = "" })
	add("data of 65,536 bytes", func(m *api.Msg) { m.An[1] = record(root, 65536) })
	add("65 questions", func(m *api.Msg) { m.Qs = slices.Repeat(m.Qs[:1], 65) })
	add("65 answers", func(m *api.Msg) { m.An = slices.Repeat(m.An[:1], 65) })
	add("65 authorities", func(m *api.Msg) { m.Ns = slices.Repeat(m.Ns[:1], 65) })
	add("65 additionals", func(m *api.Msg) { m.Ar = slices.Repeat(m.Ar[:1], 65) })
	add("65,537 additionals", func(m *api.Msg) { m.Ar = slices.Repeat(m.Ar[:1], 65537) })
	return out
}

// Whatever the room, and though it be wrong only in what is cut off.
func TestAnswerOfNoMessage(t *testing.T) {
	for what, m := range wrongForms() {
		if _, e := wire.Put(m); e != api.ErrWireForm {
			t.Fatalf("%s: %d", what, e)
		}
		for _, edns := range []bool{false, true} {
			for _, most := range []int{math.MinInt, -1, 0, 11, 12, 30, 512, 1232, 4096, math.MaxInt} {
				if s, e := pad.Answer(m, edns, most); s != "" || e != api.ErrPadForm {
					t.Fatalf("P10.3: %s, %t, within %d: %s, %d", what, edns, most, tell(s), e)
				}
			}
		}
	}
}

// A message that layer 7 refuses as too long is not cut, whatever the room; with 64 additionals and EDNS too, since the chapter names that further on.
func TestAnswerOfTooLongMessages(t *testing.T) {
	a := nameOf("a")
	for what, m := range map[string]api.Msg{
		"one byte too long":         answerOf(4066),
		"far too long":              answerOf(65535),
		"all parts":                 {Qs: slices.Repeat([]api.Question{{Name: a, Type: 1, Class: 1}}, 64), An: slices.Repeat([]api.Rr{record(a, 65535)}, 64), Ns: slices.Repeat([]api.Rr{record(a, 65535)}, 64), Ar: slices.Repeat([]api.Rr{record(a, 65535)}, 63)},
		"questions":                 questionsOf(4097),
		"64 additionals":            {Ar: slices.Repeat([]api.Rr{record(a, 60)}, 64)},
		"64 additionals and answer": {An: []api.Rr{record(a, 4096)}, Ar: slices.Repeat([]api.Rr{record(a, 0)}, 64)},
		"63 additionals":            {Ar: slices.Repeat([]api.Rr{record(a, 60)}, 63)},
		"authority":                 {Ns: []api.Rr{record(a, 4096)}},
	} {
		if _, e := wire.Put(m); e != api.ErrWireLong {
			t.Fatalf("%s: %d", what, e)
		}
		for _, edns := range []bool{false, true} {
			for _, most := range []int{math.MinInt, -1, 0, 11, 12, 30, 512, 1232, 4096, math.MaxInt} {
				if s, e := pad.Answer(m, edns, most); s != "" || e != api.ErrPadLong {
					t.Errorf("P10.3: %s, %t, within %d: %s, %d", what, edns, most, tell(s), e)
				}
				checkAnswer(t, m, edns, most)
			}
		}
	}
}

// With 64 additionals there is no place for an OPT: though the cut one would have it, and whatever the room.
func TestAnswerOfManyAdditionals(t *testing.T) {
	a := nameOf("a")
	for count := range 66 {
		m := answerOf(3)
		m.Ar = slices.Repeat([]api.Rr{record(a, 2)}, count)
		checkSides(t, m)
		for _, most := range []int{-1, 11, 12, 18, 19, 29, 30, 467, 468, 512, 4096, 5000} {
			s, e := pad.Answer(m, true, most)
			if (e == api.ErrPadForm) != (count >= 64) {
				t.Errorf("P10.3: %d additionals within %d: %d bytes, %d", count, most, len(s), e)
			}
			_, e = pad.Answer(m, false, most)
			if (e == api.ErrPadForm) != (count >= 65) {
				t.Errorf("P10.3: %d additionals within %d, without EDNS: %d", count, most, e)
			}
		}
	}
	m := api.Msg{Ar: slices.Repeat([]api.Rr{record(a, 2)}, 63)}
	s, _ := pad.Answer(m, true, 4096)
	if back, e := wire.Get(s); e != api.OK || len(back.Ar) != 64 || back.Ar[63].Type != api.TypeOpt {
		t.Errorf("P10.3: 63 additionals: %s, %d", tell(back), e)
	}
	// In the other parts 64 are no hindrance.
	m = api.Msg{Qs: slices.Repeat([]api.Question{{Name: a, Type: 1, Class: 1}}, 64), An: slices.Repeat([]api.Rr{record(a, 2)}, 64), Ns: slices.Repeat([]api.Rr{record(a, 2)}, 64)}
	if s, e := pad.Answer(m, true, 4096); e != api.OK || s[2]&2 != 0 || len(s)%468 != 0 {
		t.Errorf("P10.3: 64 of all others: %d bytes, %d", len(s), e)
	}
	checkSides(t, m)
}

// Each field of the header is told in each form; Tc is as it was in the first, and set in the others.
func TestAnswerHeads(t *testing.T) {
	heads := []api.Head{{}, {Id: 65535}, {Qr: true}, {Op: 15}, {Aa: true}, {Tc: true}, {Rd: true}, {Ra: true}, {Z: 7}, {Rcode: 15}, {Id: 65535, Qr: true, Op: 15, Aa: true, Tc: true, Rd: true, Ra: true, Z: 7, Rcode: 15}}
	for _, h := range heads {
		m := answerOf(500)
		m.Head = h
		cut := h
		cut.Tc = true
		for _, c := range []struct {
			edns bool
			most int
			want api.Head
			an   int
			ar   int
		}{{false, 531, h, 1, 0}, {false, 530, cut, 0, 0}, {false, 19, cut, 0, 0}, {true, 936, h, 1, 1}, {true, 935, cut, 0, 1}, {true, 467, cut, 0, 1}} {
			s, e := checkAnswer(t, m, c.edns, c.most)
			back, f := wire.Get(s)
			if e != api.OK || f != api.OK || back.Head != c.want || len(back.An) != c.an || len(back.Ar) != c.ar || !slices.Equal(back.Qs, m.Qs) {
				t.Errorf("P10.3: %+v, %t, within %d: %s, %d, %d", h, c.edns, c.most, tell(back), e, f)
			}
		}
	}
}

// What an answer says is read again by layers 7 and 8: the names as they were, the OPT behind all that was there, an OPT among it too.
func TestAnswerIsRead(t *testing.T) {
	m := full()
	s, e := pad.Answer(m, true, 4096)
	back, f := wire.Get(s)
	if e != api.OK || f != api.OK || len(back.Ar) != 3 {
		t.Fatalf("P10.3: %s, %d, %d", tell(back), e, f)
	}
	o, f := opt.Get(back.Ar[2])
	if f != api.OK || o.Size != 1232 || o.Ext != 0 || o.Version != 0 || o.Do || o.Z != 0 || len(o.Options) != 1 || o.Options[0].Code != 12 || strings.Trim(o.Options[0].Data, "\x00") != "" {
		t.Errorf("P10.3: %s, %d", tell(o), f)
	}
	back.Ar = back.Ar[:2]
	if !same(back, m) {
		t.Errorf("P10.3: %s, want %s", tell(back), tell(m))
	}
	s, _ = pad.Answer(m, true, 467)
	back, f = wire.Get(s)
	o, count := opt.Find(back)
	if f != api.OK || count != 1 || len(back.Ar) != 1 || o.Size != 1232 || len(o.Options) != 0 || o.Do || o.Ext+o.Version+o.Z != 0 {
		t.Errorf("P10.3: the cut one: %s", tell(back))
	}
}

// someMsg gives a message that layer 7 takes most often.
func someMsg(r *rand.Rand) api.Msg {
	h := api.Head{Id: r.Intn(1 << 16), Qr: r.Intn(2) == 0, Op: r.Intn(16), Aa: r.Intn(2) == 0, Tc: r.Intn(2) == 0, Rd: r.Intn(2) == 0, Ra: r.Intn(2) == 0, Z: r.Intn(8), Rcode: r.Intn(16)}
	names := []string{root, someName(r), someName(r), nameOf("a"), nameOf("b", "a")}
	m := api.Msg{Head: h}
	for range r.Intn(4) {
		m.Qs = append(m.Qs, api.Question{Name: names[r.Intn(5)], Type: 1 + r.Intn(65535), Class: r.Intn(1 << 16)})
	}
	most := []int{3, 3, 10, 65}[r.Intn(4)]
	for _, list := range []*[]api.Rr{&m.An, &m.Ns, &m.Ar} {
		for range r.Intn(most) {
			x := record(names[r.Intn(5)], r.Intn([]int{5, 50, 300}[r.Intn(3)]))
			x.Ttl, x.Class = r.Intn(1<<32), r.Intn(1<<16)
			if r.Intn(4) == 0 {
				x.Type, x.Data = api.TypeNs, names[r.Intn(5)]
			}
			*list = append(*list, x)
		}
	}
	return m
}

func TestSomeAnswers(t *testing.T) {
	r := rand.New(rand.NewSource(101))
	kinds := map[string]int{}
	for range 1000 {
		m := someMsg(r)
		checkSides(t, m)
		for range 10 {
			edns, most := r.Intn(2) == 0, r.Intn(4300)
			s, e := checkAnswer(t, m, edns, most)
			kinds[fmt.Sprint(edns, " ", int(e), " ", e == api.OK && len(s) >= 12 && s[6:10] == zeros(4), " ", len(s)%468 == 0)]++
		}
	}
	for _, kind := range []string{"true 0 false true", "true 0 true true", "true 0 true false", "false 0 false false", "false 0 true false", "true 1001 false true", "false 1001 false true"} {
		if kinds[kind] < 20 {
			t.Errorf("not enough of %q: %v", kind, kinds)
		}
	}
}

// roomy gives m with room behind each of its lists, in which something stands.
func roomy(m api.Msg) api.Msg {
	qs := append(slices.Clone(m.Qs), slices.Repeat([]api.Question{{Name: "behind", Type: -1, Class: -2}}, 3)...)
	grow := func(list []api.Rr) []api.Rr {
		return append(slices.Clone(list), slices.Repeat([]api.Rr{{Name: "behind", Type: -1, Class: -2, Ttl: -3, Data: "room"}}, 3)...)[:len(list)]
	}
	return api.Msg{Head: m.Head, Qs: qs[:len(m.Qs)], An: grow(m.An), Ns: grow(m.Ns), Ar: grow(m.Ar)}
}

// whole gives m with the room behind its lists as part of them.
func whole(m api.Msg) api.Msg {
	return api.Msg{Head: m.Head, Qs: m.Qs[:cap(m.Qs)], An: m.An[:cap(m.An)], Ns: m.Ns[:cap(m.Ns)], Ar: m.Ar[:cap(m.Ar)]}
}

// copyOf gives m in memory of its own.
func copyOf(m api.Msg) api.Msg {
	return api.Msg{Head: m.Head, Qs: slices.Clone(m.Qs), An: slices.Clone(m.An), Ns: slices.Clone(m.Ns), Ar: slices.Clone(m.Ar)}
}

// What is handed in is as it was, and so is the room behind its lists, in each form and beside each error.
func TestArgumentsAreNotChanged(t *testing.T) {
	many, wrong := answerOf(3), full()
	many.Ar = slices.Repeat([]api.Rr{record(root, 2)}, 64)
	wrong.Ar[1].Type = 0
	for _, base := range []api.Msg{{}, full(), answerOf(3), answerOf(500), answerOf(4065), answerOf(4066), many, wrong} {
		m := roomy(base)
		was := copyOf(whole(m))
		for _, edns := range []bool{false, true} {
			for _, most := range []int{-1, 12, 19, 30, 467, 468, 512, 936, 4096, 5000} {
				checkAnswer(t, m, edns, most)
				if !same(whole(m), was) || !same(m, base) {
					t.Fatalf("P10.3: %t, within %d: %s was changed to %s", edns, most, tell(was), tell(whole(m)))
				}
			}
		}
	}
	step := api.Step{Name: nameOf("A", "b"), Type: 1}
	checkQuery(t, 1, step)
	if step != (api.Step{Name: nameOf("A", "b"), Type: 1}) {
		t.Errorf("P10.2: the step was changed: %s", tell(step))
	}
}

// An answer is the same whatever stands behind the lists, and however they were made.
func TestRoomBehindListsSaysNothing(t *testing.T) {
	for _, m := range []api.Msg{{}, full(), answerOf(500)} {
		for _, most := range []int{19, 30, 512, 4096} {
			for _, edns := range []bool{false, true} {
				a, e := pad.Answer(m, edns, most)
				b, f := pad.Answer(roomy(m), edns, most)
				if a != b || e != f {
					t.Errorf("P10.3: %s: %s, %s", tell(m), tell(a), tell(b))
				}
			}
		}
	}
	empty := api.Msg{Qs: []api.Question{}, An: []api.Rr{}, Ns: []api.Rr{}, Ar: []api.Rr{}}
	for most := range 500 {
		for _, edns := range []bool{false, true} {
			a, e := pad.Answer(empty, edns, most)
			if b, f := pad.Answer(api.Msg{}, edns, most); a != b || e != f {
				t.Errorf("P10.3: empty lists within %d: %s, %s", most, tell(a), tell(b))
			}
		}
	}
}

// shares says whether two strings lie in one piece of memory.
func shares(a, b string) bool {
	if a == "" || b == "" {
		return false
	}
	from, to := uintptr(unsafe.Pointer(unsafe.StringData(a))), uintptr(unsafe.Pointer(unsafe.StringData(b)))
	return from < to+uintptr(len(b)) && to < from+uintptr(len(a))
}

// No bytes that are answered lie in the memory of what was handed in, nor in another answer's.
func TestBytesOfTheirOwn(t *testing.T) {
	m := full()
	var texts []string
	for _, q := range m.Qs {
		texts = append(texts, q.Name)
	}
	for _, x := range slices.Concat(m.An, m.Ns, m.Ar) {
		texts = append(texts, x.Name, x.Data)
	}
	step := api.Step{Name: nameOf("small", "letters"), Type: 1}
	texts = append(texts, step.Name)
	for range 2 {
		for _, edns := range []bool{false, true} {
			for _, most := range []int{4096, 467, 60} {
				s, _ := pad.Answer(m, edns, most)
				texts = append(texts, s)
			}
		}
		s, _ := pad.Query(1, step)
		texts = append(texts, s)
	}
	own := len(texts) - 14
	for i := own; i < len(texts); i++ {
		for j, other := range texts[:i] {
			if shares(texts[i], other) {
				t.Errorf("R4: answer %d shares memory with text %d", i-own, j)
			}
		}
	}
}

func TestSeveralGoroutines(t *testing.T) {
	shared := roomy(full())
	want, _ := wantAnswer(full(), true, 4096)
	var all sync.WaitGroup
	for g := range 8 {
		all.Go(func() {
			r := rand.New(rand.NewSource(int64(g)))
			for range 200 {
				m, edns, most := someMsg(r), r.Intn(2) == 0, r.Intn(4300)
				s, e := pad.Answer(m, edns, most)
				if w, f := wantAnswer(m, edns, most); s != w || e != f {
					t.Errorf("P10.3: %s, %t, within %d: %s, %d", tell(m), edns, most, tell(s), e)
					return
				}
				if s, e := pad.Answer(shared, true, 4096); s != want || e != api.OK {
					t.Errorf("P10.3: %s, %d", tell(s), e)
					return
				}
				id, step := r.Intn(70000), api.Step{Name: someName(r), Type: r.Intn(70000)}
				s, e = pad.Query(id, step)
				if w, f := wantQuery(id, step); s != w || e != f || pad.Room(id, 128) != wantRoom(id, 128) {
					t.Errorf("P10.2: %d, %s: %s, %d", id, tell(step), tell(s), e)
					return
				}
			}
		})
	}
	all.Wait()
}

// What costs most: the most records of the longest names, data far too long, and rows far too long.
func TestItEndsSoon(t *testing.T) {
	began := time.Now()
	ones := strings.Repeat("\x01a", 127) + root
	long := slices.Repeat([]api.Rr{{Name: ones, Type: 16, Class: 1, Data: strings.Repeat("\x00", 65535)}}, 63)
	short := slices.Repeat([]api.Rr{{Name: ones, Type: 16, Class: 1, Data: "\x00"}}, 63)
	rows := slices.Repeat([]api.Rr{{Name: ones, Type: 99, Class: 1}}, 1<<20)
	for range 20 {
		for _, c := range []struct {
			m    api.Msg
			code api.Errno
		}{
			{api.Msg{An: short, Ns: short, Ar: short}, api.OK},
			{api.Msg{An: long, Ns: long, Ar: long}, api.ErrPadLong},
			{api.Msg{An: rows, Ns: rows, Ar: rows}, api.ErrPadForm},
			{api.Msg{Ar: rows}, api.ErrPadForm},
		} {
			for _, most := range []int{100, 4096} {
				if _, e := pad.Answer(c.m, true, most); e != c.code {
					t.Fatalf("P10.3: %d, want %d", e, c.code)
				}
			}
		}
		for _, n := range []string{ones, strings.Repeat("\x01a", 1<<20) + root} {
			pad.Query(1, api.Step{Name: n, Type: 1})
		}
		pad.Room(math.MaxInt, math.MaxInt-1)
	}
	if took := time.Since(began); took > 20*time.Second {
		t.Errorf("it took %v", took)
	}
}

func FuzzPadding(f *testing.F) {
	f.Add(0, 0, 1, root, "", 0, false, 0)
	f.Add(7, 1232, 468, nameOf("wWw", "Example"), "abcd", 3, true, 1232)
	f.Add(65535, math.MaxInt, math.MaxInt, nameOfSize(255, "Z"), strings.Repeat("d", 900), 63, true, 936)
	f.Add(-1, -1, 0, "\x01a", "x", 64, true, 4096)
	f.Fuzz(func(t *testing.T, id, size, block int, n, data string, count int, edns bool, most int) {
		checkRoom(t, size, block)
		checkQuery(t, id, api.Step{Name: n, Type: size})
		checkQuery(t, id&65535, api.Step{Name: n, Type: 1 + size&32767})
		x := api.Rr{Name: n, Type: 99, Class: 1, Data: data}
		m := api.Msg{Head: api.Head{Id: id}, Qs: []api.Question{{Name: n, Type: 1, Class: 1}}, An: []api.Rr{x}}
		checkAnswer(t, m, edns, most)
		m.Head.Id = id & 65535
		m.Ar = slices.Repeat([]api.Rr{x}, count&127)
		checkAnswer(t, m, edns, most)
		checkAnswer(t, m, edns, most&8191)
	})
}
