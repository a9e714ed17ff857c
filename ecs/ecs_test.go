package ecs_test

import (
	"fmt"
	"math"
	"math/rand"
	"reflect"
	"slices"
	"strings"
	"sync"
	"testing"
	"time"
	"unsafe"

	"wimple/api"
	"wimple/ecs"
	"wimple/opt"
)

// address is what a client's option says of it.
const address = "\x00\x01\x18\x00\xc0\x00\x02"

// an gives an option.
func an(code int, data string) api.Option {
	return api.Option{Code: code, Data: data}
}

// with gives an OPT taken apart, each of whose fields is told from the others, with the options.
func with(options ...api.Option) api.Opt {
	return api.Opt{Size: 1232, Ext: 1, Version: 2, Do: true, Z: 3, Options: options}
}

// same says whether a and b are, an empty list and nil being one.
func same(a, b api.Opt) bool {
	return a.Size == b.Size && a.Ext == b.Ext && a.Version == b.Version && a.Do == b.Do && a.Z == b.Z && slices.Equal(a.Options, b.Options)
}

// copyOf gives o in memory of its own, the room behind its list too.
func copyOf(o api.Opt) api.Opt {
	room := make([]api.Option, cap(o.Options))
	for i, x := range o.Options[:cap(o.Options)] {
		room[i] = an(x.Code, strings.Clone(x.Data))
	}
	o.Options = room[:len(o.Options)]
	return o
}

// sameRoom says whether the lists of a and b are, with the room behind them.
func sameRoom(a, b api.Opt) bool {
	return slices.Equal(a.Options[:cap(a.Options)], b.Options[:cap(b.Options)])
}

// tell shortens what is told.
func tell(x any) string {
	s := fmt.Sprintf("%+q", fmt.Sprintf("%+v", x))
	if len(s) > 400 {
		return s[:400] + ".."
	}
	return s
}

// wantStrip is P9.1's first half: o's options from the last one on, those that stay laid ahead.
func wantStrip(o api.Opt) api.Opt {
	out := api.Opt{Size: o.Size, Ext: o.Ext, Version: o.Version, Do: o.Do, Z: o.Z}
	for i := len(o.Options) - 1; i >= 0; i-- {
		if o.Options[i].Code != 8 {
			out.Options = append([]api.Option{o.Options[i]}, out.Options...)
		}
	}
	return out
}

// wantHas is P9.1's second half.
func wantHas(o api.Opt) bool {
	count := 0
	for _, x := range o.Options {
		if x.Code == 8 {
			count++
		}
	}
	return count > 0
}

// check holds Strip and Has against the chapter, and what is left against both again.
func check(t *testing.T, o api.Opt) api.Opt {
	t.Helper()
	was := copyOf(o)
	if got := ecs.Has(o); got != wantHas(o) {
		t.Fatalf("P9.1: Has(%s) = %t", tell(o), got)
	}
	got := ecs.Strip(o)
	if want := wantStrip(o); !same(got, want) {
		t.Fatalf("P9.1: Strip(%s) = %s, want %s", tell(o), tell(got), tell(want))
	}
	if !same(o, was) || !sameRoom(o, was) {
		t.Fatalf("P9.1: %s was changed to %s", tell(was), tell(o))
	}
	if ecs.Has(got) {
		t.Fatalf("P9.1: Has(Strip(%s))", tell(o))
	}
	if again := ecs.Strip(got); !same(again, got) {
		t.Fatalf("P9.1: Strip(Strip(%s)) = %s, want %s", tell(o), tell(again), tell(got))
	}
	return got
}

func TestOrdinaryOpts(t *testing.T) {
	cookie, padding, bare, client := an(10, "cookie!!"), an(api.OptPadding, "\x00\x00\x00"), an(3, ""), an(api.OptEcs, address)
	empty := an(api.OptEcs, "")
	row := func(options ...api.Option) []api.Option { return options }
	for _, c := range []struct {
		what    string
		options []api.Option
		left    []api.Option
		has     bool
	}{
		{"no list", nil, nil, false},
		{"an empty list", row(), nil, false},
		{"one of another code", row(padding), row(padding), false},
		{"none of the code", row(cookie, padding, bare, padding), row(cookie, padding, bare, padding), false},
		{"one of the code", row(client), nil, true},
		{"one of the code without data", row(empty), nil, true},
		{"all of the code", row(client, empty, client, client), nil, true},
		{"first", row(client, cookie, padding), row(cookie, padding), true},
		{"last", row(cookie, padding, client), row(cookie, padding), true},
		{"in the middle", row(cookie, client, padding), row(cookie, padding), true},
		{"first, without data", row(empty, cookie, padding), row(cookie, padding), true},
		{"last, without data", row(cookie, padding, empty), row(cookie, padding), true},
		{"in the middle, without data", row(cookie, empty, padding), row(cookie, padding), true},
		{"twice in a row", row(cookie, client, client, padding), row(cookie, padding), true},
		{"twice in a row first", row(client, empty, cookie, padding), row(cookie, padding), true},
		{"twice in a row last", row(cookie, padding, empty, client), row(cookie, padding), true},
		{"first and last", row(client, cookie, padding, client), row(cookie, padding), true},
		{"between all others", row(client, padding, client, bare, client, cookie, client), row(padding, bare, cookie), true},
		{"the same one twice beside it", row(bare, client, bare, cookie, cookie), row(bare, bare, cookie, cookie), true},
		{"others in a row that does not rise", row(padding, client, cookie, bare), row(padding, cookie, bare), true},
	} {
		o := with(c.options...)
		if got := ecs.Has(o); got != c.has {
			t.Errorf("P9.1: %s: Has = %t", c.what, got)
		}
		if got := ecs.Strip(o); !same(got, with(c.left...)) {
			t.Errorf("P9.1: %s: %s, want %s", c.what, tell(got), tell(with(c.left...)))
		}
		check(t, o)
	}
}

// Every row of up to six options, of the code with data and without, and of others.
func TestEveryShortRow(t *testing.T) {
	kinds := []api.Option{an(8, "a"), an(8, ""), an(7, "a"), an(9, "b"), an(12, "")}
	rows := 1
	for size := range 7 {
		for x := range rows {
			options := make([]api.Option, size)
			for i := range options {
				options[i] = kinds[x%len(kinds)]
				x /= len(kinds)
			}
			check(t, with(options...))
		}
		rows *= len(kinds)
	}
}

// Every number that a code may be is kept, but for one; and so are the numbers that none may be, some of which would be that one if their higher bits, or their sign, were let go.
func TestEveryCode(t *testing.T) {
	if api.OptEcs != 8 {
		t.Fatalf("OptEcs is %d", api.OptEcs)
	}
	codes := []int{math.MinInt, math.MinInt + 8, math.MaxInt, math.MaxInt - 7, -1, -7, -8, -9, -65528, -65536 + 8, 65536, 65544, 1<<32 + 8, 1<<62 + 8, -1<<32 + 8, ^8}
	for i := 4; i < 63; i++ {
		codes = append(codes, 1<<i+8, 8-1<<i, 8<<i, -8<<i)
	}
	for code := range 1 << 16 {
		codes = append(codes, code)
	}
	for _, code := range codes {
		if code == 8 {
			continue
		}
		alone, beside := with(an(code, "ab")), with(an(8, "x"), an(code, "ab"), an(8, ""), an(code, ""))
		if ecs.Has(alone) || !same(ecs.Strip(alone), alone) {
			t.Fatalf("P9.1: the code %d alone: %s", code, tell(ecs.Strip(alone)))
		}
		if !ecs.Has(beside) || !same(ecs.Strip(beside), with(an(code, "ab"), an(code, ""))) {
			t.Fatalf("P9.1: the code %d beside the client's: %s", code, tell(ecs.Strip(beside)))
		}
	}
}

// Each field beside the options is as it was, alone and beside all others, be it a number that none may be.
func TestOtherFields(t *testing.T) {
	lists := [][]api.Option{nil, {an(12, "a")}, {an(8, "a")}, {an(8, "a"), an(12, "a"), an(8, "")}}
	for _, x := range []int{0, 1, 8, 255, 256, 1232, 32767, 32768, 65535, 65536, -1, -8, math.MinInt, math.MaxInt} {
		for _, o := range []api.Opt{{Size: x}, {Ext: x}, {Version: x}, {Z: x}, {Do: x == 1}, {Size: x, Ext: x + 1, Version: x + 2, Do: true, Z: x + 3}, {Size: x, Ext: x - 1, Version: x - 2, Z: x - 3}} {
			for _, options := range lists {
				o.Options = options
				check(t, o)
			}
		}
	}
	check(t, api.Opt{})
}

// The data of the others stays, be it like a client's option, of any length and of any byte.
func TestDataOfTheOthers(t *testing.T) {
	datas := []string{"", "\x00", "\x00\x08", "\x00\x08\x00\x07" + address, address, strings.Repeat("\x08", 65535), strings.Repeat("x", 1<<17)}
	for b := range 256 {
		datas = append(datas, string([]byte{byte(b)}))
	}
	for _, data := range datas {
		for _, options := range [][]api.Option{{an(9, data)}, {an(8, data)}, {an(8, data), an(9, data)}, {an(9, data), an(8, data), an(12, data)}} {
			check(t, with(options...))
		}
	}
}

// One option of the code is found and left out wherever it stands, and so are the others, it alone kept.
func TestEachPlace(t *testing.T) {
	for size := 1; size <= 70; size++ {
		for at := range size {
			one, rest := make([]api.Option, size), make([]api.Option, size)
			for i := range size {
				one[i], rest[i] = an(100+i, fmt.Sprint(i)), an(8, fmt.Sprint(i))
			}
			one[at], rest[at] = rest[at], one[at]
			if got := check(t, with(one...)); len(got.Options) != size-1 || !ecs.Has(with(one...)) {
				t.Fatalf("P9.1: %d of %d: %s", at, size, tell(got))
			}
			if got := check(t, with(rest...)); !same(got, with(an(100+at, fmt.Sprint(at)))) {
				t.Fatalf("P9.1: all but %d of %d: %s", at, size, tell(got))
			}
		}
	}
}

// someOpt gives one with fewer options than most, many of them of the code.
func someOpt(r *rand.Rand, most int) api.Opt {
	o := api.Opt{Size: r.Intn(1 << 16), Ext: r.Intn(256), Version: r.Intn(256), Do: r.Intn(2) == 0, Z: r.Intn(1 << 15)}
	for range r.Intn(most) {
		code := []int{8, 8, 7, 9, 12, 0, 65535, r.Intn(1 << 16)}[r.Intn(8)]
		data := make([]byte, r.Intn(12))
		r.Read(data)
		o.Options = append(o.Options, an(code, string(data)))
	}
	return o
}

func TestSomeOpts(t *testing.T) {
	r := rand.New(rand.NewSource(9))
	seen := map[bool]int{}
	for range 20000 {
		o := someOpt(r, 9)
		check(t, o)
		seen[ecs.Has(o)]++
	}
	if seen[true] < 5000 || seen[false] < 3000 {
		t.Errorf("not enough of each kind: %v", seen)
	}
}

// What is left is put and told again without the client's option, and what a record says is stripped of it.
func TestThroughRecords(t *testing.T) {
	r := rand.New(rand.NewSource(99))
	for range 2000 {
		o := someOpt(r, 6)
		whole, e := opt.Put(o)
		if e != api.OK {
			t.Fatalf("P9.1: %s: %d", tell(o), e)
		}
		told, e := opt.Get(whole)
		if e != api.OK || ecs.Has(told) != ecs.Has(o) {
			t.Fatalf("P9.1: %s: %s, %d", tell(o), tell(told), e)
		}
		cut, e := opt.Put(ecs.Strip(told))
		if e != api.OK {
			t.Fatalf("P9.1: %s: %d", tell(o), e)
		}
		if back, e := opt.Get(cut); e != api.OK || ecs.Has(back) || !same(back, wantStrip(o)) {
			t.Fatalf("P9.1: %s: %s, %d", tell(o), tell(back), e)
		}
	}
}

// What is handed in is as it was, and so is the room behind its list, though options of the code stand there.
func TestArgumentsAreNotChanged(t *testing.T) {
	all := []api.Option{an(8, "first"), an(12, "a"), an(8, ""), an(10, "b"), an(8, "last"), an(7, "c"), an(9, "d")}
	for from := range len(all) + 1 {
		for to := from; to <= len(all); to++ {
			room := slices.Clone(all)
			o := with(room[from:to]...)
			want := wantHas(with(all[from:to]...))
			if ecs.Has(o) != want || !slices.Equal(room, all) {
				t.Fatalf("P9.1: Has changed %d to %d: %s", from, to, tell(room))
			}
			ecs.Strip(o)
			if !slices.Equal(room, all) || len(o.Options) != to-from {
				t.Fatalf("P9.1: Strip changed %d to %d: %s", from, to, tell(room))
			}
			check(t, o)
		}
	}
}

// writeOver changes the list of o, and all the room behind it.
func writeOver(o api.Opt) {
	all := o.Options[:cap(o.Options)]
	for i := range all {
		all[i] = an(-1, "changed")
	}
}

// lists gives rows of options with what is left of them: some of the code, none, all, and no option at all.
func lists() map[string][]api.Option {
	return map[string][]api.Option{
		"some": {an(8, address), an(12, strings.Repeat("abc", 20)), an(8, ""), an(10, "cookie")},
		"none": {an(12, strings.Repeat("abc", 20)), an(10, "cookie")},
		"all":  {an(8, address), an(8, "")},
		"no":   {},
	}
}

// Writing over what was handed in leaves what was answered as it was, and the other way round.
func TestListsOfTheirOwn(t *testing.T) {
	for what, options := range lists() {
		for _, spare := range []int{0, 1, 8} {
			o := with(append(make([]api.Option, 0, len(options)+spare), options...)...)
			want := wantStrip(with(options...))
			one, other := ecs.Strip(o), ecs.Strip(o)
			writeOver(one)
			one.Options = append(one.Options, an(-2, "more"))
			if !same(o, with(options...)) || !same(other, want) || !same(ecs.Strip(o), want) {
				t.Errorf("P9.1: %s: writing over an answer: %s, %s", what, tell(o), tell(other))
			}
			writeOver(o)
			if !same(other, want) {
				t.Errorf("P9.1: %s: writing over what was handed in: %s", what, tell(other))
			}
			left := ecs.Strip(other)
			writeOver(left)
			if !same(other, want) {
				t.Errorf("P9.1: %s: writing over what was stripped twice: %s", what, tell(other))
			}
		}
	}
}

// shares says whether two strings lie in one piece of memory.
func shares(a, b string) bool {
	if a == "" || b == "" {
		return false
	}
	from, to := uintptr(unsafe.Pointer(unsafe.StringData(a))), uintptr(unsafe.Pointer(unsafe.StringData(b)))
	return from < to+uintptr(len(b)) && to < from+uintptr(len(a))
}

// No data that is answered lies in the memory of what was handed in, nor in another answer's.
func TestDataOfItsOwn(t *testing.T) {
	for what, options := range lists() {
		o := with(options...)
		one, other := ecs.Strip(o), ecs.Strip(o)
		for i, x := range one.Options {
			for _, y := range slices.Concat(o.Options, other.Options, one.Options[:i]) {
				if shares(x.Data, y.Data) {
					t.Errorf("P9.1: %s: the data of option %d shares memory", what, i)
				}
			}
		}
	}
	data := strings.Repeat("z", 30)
	got := ecs.Strip(with(an(12, data), an(12, data[:10]), an(8, data), an(3, data[5:])))
	for i, x := range got.Options {
		for _, y := range got.Options[:i] {
			if shares(x.Data, y.Data) || shares(x.Data, data) {
				t.Errorf("P9.1: the data of option %d shares memory with an earlier one", i)
			}
		}
	}
}

// Nothing of what was cut off is left in the room behind what was answered.
func TestNoAddressBehindTheList(t *testing.T) {
	for what, options := range lists() {
		got := ecs.Strip(with(options...))
		for _, x := range got.Options[len(got.Options):cap(got.Options)] {
			if !reflect.DeepEqual(x, api.Option{}) {
				t.Errorf("P9.1: %s: %s stands behind the list", what, tell(x))
			}
		}
	}
}

func TestSeveralGoroutines(t *testing.T) {
	shared := with(lists()["some"]...)
	var all sync.WaitGroup
	for g := range 8 {
		all.Go(func() {
			r := rand.New(rand.NewSource(int64(g)))
			for range 1000 {
				o := someOpt(r, 9)
				if got := ecs.Strip(o); !same(got, wantStrip(o)) || ecs.Has(o) != wantHas(o) {
					t.Errorf("P9.1: %s: %s", tell(o), tell(got))
					return
				}
				if got := ecs.Strip(shared); len(got.Options) != 2 || !ecs.Has(shared) {
					t.Errorf("P9.1: %s", tell(got))
					return
				}
			}
		})
	}
	all.Wait()
}

// What costs most: far more options than a record has room for, of the code each, each second one, and none.
func TestItEndsSoon(t *testing.T) {
	began := time.Now()
	const many = 1 << 20
	for _, c := range []struct {
		codes []int
		left  int
	}{{[]int{8}, 0}, {[]int{8, 12}, many / 2}, {[]int{12}, many}} {
		options := make([]api.Option, many)
		for i := range options {
			options[i].Code = c.codes[i%len(c.codes)]
		}
		for range 5 {
			got := ecs.Strip(with(options...))
			if len(got.Options) != c.left || ecs.Has(got) {
				t.Fatalf("P9.1: %v: %d options, want %d", c.codes, len(got.Options), c.left)
			}
		}
	}
	if took := time.Since(began); took > 20*time.Second {
		t.Errorf("it took %v", took)
	}
}

func FuzzOptions(f *testing.F) {
	f.Add(0, 0, 0, false, 0, 0, 0, 0, 0, "", "")
	f.Add(1232, 1, 2, true, 3, 8, 12, 8, 10, address, "abc")
	f.Add(-1, 65536, 256, true, 32768, 65544, -8, 7, 9, "\x00\x08", "")
	f.Fuzz(func(t *testing.T, size, ext, version int, do bool, z int, a, b, c, d int, s, u string) {
		o := api.Opt{Size: size, Ext: ext, Version: version, Do: do, Z: z}
		for _, options := range [][]api.Option{
			{an(a, s), an(b, u), an(c, s), an(d, u)},
			{an(8, s), an(a, u), an(8, u), an(b, s)},
			{an(a%16, s), an(b%16, s), an(c%16, u), an(d%16, u)},
		} {
			o.Options = options
			check(t, o)
			o.Options = options[:2]
			check(t, o)
		}
	})
}
