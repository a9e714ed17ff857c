package opt_test

import (
	"fmt"
	"math"
	"math/rand"
	"reflect"
	"slices"
	"strconv"
	"strings"
	"sync"
	"testing"
	"time"
	"unsafe"

	"wimple/api"
	"wimple/opt"
	"wimple/wire"
)

const root = "\x00"

// field is a field of an OPT record beside its options: how many bits it has, and where it is kept.
type field struct {
	name string
	bits int
	at   func(o *api.Opt) *int
}

// numbers gives the fields that are numbers, in the row of chapter 8's head.
func numbers() []field {
	return []field{
		{"Size", 16, func(o *api.Opt) *int { return &o.Size }},
		{"Ext", 8, func(o *api.Opt) *int { return &o.Ext }},
		{"Version", 8, func(o *api.Opt) *int { return &o.Version }},
		{"Z", 15, func(o *api.Opt) *int { return &o.Z }},
	}
}

// two gives a number's two bytes.
func two(x int) string {
	return string([]byte{byte(x / 256), byte(x % 256)})
}

// bytesOf gives the bytes of an option.
func bytesOf(code int, data string) string {
	return two(code) + two(len(data)) + data
}

// record gives an OPT record.
func record(class, ttl int, data string) api.Rr {
	return api.Rr{Name: root, Type: 41, Class: class, Ttl: ttl, Data: data}
}

// full gives an OPT record taken apart of which every bit is set.
func full() api.Opt {
	return api.Opt{Size: 65535, Ext: 255, Version: 255, Do: true, Z: 32767}
}

// with gives o with the options.
func with(o api.Opt, options ...api.Option) api.Opt {
	o.Options = options
	return o
}

// same says whether a and b are, an empty list and nil being one.
func same(a, b api.Opt) bool {
	return a.Size == b.Size && a.Ext == b.Ext && a.Version == b.Version && a.Do == b.Do && a.Z == b.Z && slices.Equal(a.Options, b.Options)
}

// tell shortens what is told.
func tell(x any) string {
	s := fmt.Sprintf("%+q", fmt.Sprintf("%+v", x))
	if len(s) > 400 {
		return s[:400] + ".."
	}
	return s
}

// wantPut is P8.1's first half, its Ttl said by a text of digits of base 2.
func wantPut(o api.Opt) (api.Rr, api.Errno) {
	wrong := o.Size < 0 || o.Size > 65535 || o.Ext < 0 || o.Ext > 255 || o.Version < 0 || o.Version > 255 || o.Z < 0 || o.Z > 32767
	sum := 0
	for _, x := range o.Options {
		sum += 4 + len(x.Data)
		wrong = wrong || x.Code < 0 || x.Code > 65535
	}
	if wrong || sum > 65535 {
		return api.Rr{}, api.ErrOptForm
	}
	do := "0"
	if o.Do {
		do = "1"
	}
	ttl, _ := strconv.ParseInt(fmt.Sprintf("%08b%08b%s%015b", o.Ext, o.Version, do, o.Z), 2, 64)
	var data strings.Builder
	for _, x := range o.Options {
		data.WriteString(bytesOf(x.Code, x.Data))
	}
	return record(o.Size, int(ttl), data.String()), api.OK
}

// wantGet is P8.1's second half, said so too.
func wantGet(r api.Rr) (api.Opt, api.Errno) {
	if r.Name != root || r.Type != 41 || r.Class < 0 || r.Class > 65535 || r.Ttl < 0 || r.Ttl > 4294967295 || len(r.Data) > 65535 {
		return api.Opt{}, api.ErrOptForm
	}
	digits := fmt.Sprintf("%032b", r.Ttl)
	part := func(from, to int) int {
		x, _ := strconv.ParseInt(digits[from:to], 2, 64)
		return int(x)
	}
	o := api.Opt{Size: r.Class, Ext: part(0, 8), Version: part(8, 16), Do: digits[16] == '1', Z: part(17, 32)}
	rest := r.Data
	for rest != "" {
		if len(rest) < 4 {
			return api.Opt{}, api.ErrOptForm
		}
		code, size := int(rest[0])*256+int(rest[1]), int(rest[2])*256+int(rest[3])
		rest = rest[4:]
		if len(rest) < size {
			return api.Opt{}, api.ErrOptForm
		}
		o.Options = append(o.Options, api.Option{Code: code, Data: rest[:size]})
		rest = rest[size:]
	}
	return o, api.OK
}

// wantFind is P8.2.
func wantFind(m api.Msg) (api.Opt, int) {
	all := slices.DeleteFunc(slices.Clone(m.Ar), func(r api.Rr) bool { return r.Type != 41 })
	if len(all) == 0 {
		return api.Opt{}, 0
	}
	o, _ := wantGet(all[0])
	return o, len(all)
}

// checkPut holds Put against the chapter, and what it wrote against Get.
func checkPut(t *testing.T, o api.Opt) (api.Rr, api.Errno) {
	t.Helper()
	r, e := opt.Put(o)
	if want, f := wantPut(o); r != want || e != f {
		t.Fatalf("P8.1: Put(%s) = %s, %d, want %s, %d", tell(o), tell(r), e, tell(want), f)
	}
	if e == api.OK {
		if back, f := opt.Get(r); !same(back, o) || f != api.OK {
			t.Fatalf("P8.1: Get(Put(%s)) = %s, %d", tell(o), tell(back), f)
		}
	}
	return r, e
}

// checkGet holds Get against the chapter, and what it told against Put; and Find against it where r is all there is.
func checkGet(t *testing.T, r api.Rr) (api.Opt, api.Errno) {
	t.Helper()
	o, e := opt.Get(r)
	if want, f := wantGet(r); !same(o, want) || e != f {
		t.Fatalf("P8.1: Get(%s) = %s, %d, want %s, %d", tell(r), tell(o), e, tell(want), f)
	}
	if e == api.OK {
		if back, f := opt.Put(o); back != r || f != api.OK {
			t.Fatalf("P8.1: Put(Get(%s)) = %s, %d", tell(r), tell(back), f)
		}
	}
	checkFind(t, api.Msg{Ar: []api.Rr{r}})
	return o, e
}

// checkFind holds Find against the chapter.
func checkFind(t *testing.T, m api.Msg) {
	t.Helper()
	o, n := opt.Find(m)
	if want, k := wantFind(m); !same(o, want) || n != k {
		t.Fatalf("P8.2: Find(%s) = %s, %d, want %s, %d", tell(m), tell(o), n, tell(want), k)
	}
}

// bothWays says that o and the record are one and the same.
func bothWays(t *testing.T, what string, o api.Opt, r api.Rr) {
	t.Helper()
	if got, e := opt.Put(o); got != r || e != api.OK {
		t.Errorf("P8.1: %s: Put(%s) = %s, %d, want %s", what, tell(o), tell(got), e, tell(r))
	}
	if got, e := opt.Get(r); !same(got, o) || e != api.OK {
		t.Errorf("P8.1: %s: Get(%s) = %s, %d, want %s", what, tell(r), tell(got), e, tell(o))
	}
}

// refusesPut says that Put refuses o, with nothing beside the error.
func refusesPut(t *testing.T, what string, o api.Opt) {
	t.Helper()
	if r, e := opt.Put(o); r != (api.Rr{}) || e != api.ErrOptForm {
		t.Errorf("P8.1: %s: %s, %d, want %d", what, tell(r), e, api.ErrOptForm)
	}
}

// refusesGet says that Get refuses r, with nothing beside the error, and that Find counts it all the same if its type is told.
func refusesGet(t *testing.T, what string, r api.Rr) {
	t.Helper()
	if o, e := opt.Get(r); !reflect.DeepEqual(o, api.Opt{}) || e != api.ErrOptForm {
		t.Errorf("P8.1: %s: %s, %d, want %d", what, tell(o), e, api.ErrOptForm)
	}
	want := 0
	if r.Type == api.TypeOpt {
		want = 1
	}
	if o, n := opt.Find(api.Msg{Ar: []api.Rr{r}}); !reflect.DeepEqual(o, api.Opt{}) || n != want {
		t.Errorf("P8.2: %s: %s, %d, want nothing, %d", what, tell(o), n, want)
	}
}

func TestOrdinaryRecords(t *testing.T) {
	for _, c := range []struct {
		what string
		o    api.Opt
		r    api.Rr
	}{
		{"nothing", api.Opt{}, record(0, 0, "")},
		{"a size alone", api.Opt{Size: api.Payload}, record(1232, 0, "")},
		{"a query with padding", with(api.Opt{Size: 1232}, api.Option{Code: api.OptPadding, Data: "\x00\x00\x00"}), record(1232, 0, "\x00\x0c\x00\x03\x00\x00\x00")},
		{"a client's address", with(api.Opt{Size: 4096, Do: true}, api.Option{Code: api.OptEcs, Data: "\x00\x01\x18\x00\xc0\x00\x02"}), record(4096, 0x8000, "\x00\x08\x00\x07\x00\x01\x18\x00\xc0\x00\x02")},
		{"a version that is not known", api.Opt{Size: 512, Ext: 1, Version: 2}, record(512, 0x01020000, "")},
		{"several options", with(api.Opt{Size: 0x1234, Ext: 0x56, Version: 0x78, Do: true, Z: 0x1abc}, api.Option{Code: 10, Data: "cookie"}, api.Option{Code: 12}, api.Option{Code: 0x0102, Data: "\x00"}), record(0x1234, 0x56789abc, "\x00\x0a\x00\x06cookie\x00\x0c\x00\x00\x01\x02\x00\x01\x00")},
		{"every bit", full(), record(65535, 4294967295, "")},
	} {
		bothWays(t, c.what, c.o, c.r)
		checkPut(t, c.o)
		checkGet(t, c.r)
	}
}

func TestEdgesOfNumbers(t *testing.T) {
	for _, c := range []struct {
		what string
		o    api.Opt
		r    api.Rr
	}{
		{"Size 0", api.Opt{Size: 0}, record(0, 0, "")}, {"Size 65535", api.Opt{Size: 65535}, record(65535, 0, "")},
		{"Ext 0", api.Opt{Ext: 0}, record(0, 0, "")}, {"Ext 255", api.Opt{Ext: 255}, record(0, 0xff000000, "")},
		{"Version 0", api.Opt{Version: 0}, record(0, 0, "")}, {"Version 255", api.Opt{Version: 255}, record(0, 0xff0000, "")},
		{"Z 0", api.Opt{Z: 0}, record(0, 0, "")}, {"Z 32767", api.Opt{Z: 32767}, record(0, 0x7fff, "")},
		{"Do alone", api.Opt{Do: true}, record(0, 0x8000, "")}, {"all but Do", api.Opt{Size: 65535, Ext: 255, Version: 255, Z: 32767}, record(65535, 0xffff7fff, "")},
		{"Code 0", with(api.Opt{}, api.Option{Code: 0}), record(0, 0, "\x00\x00\x00\x00")}, {"Code 65535", with(api.Opt{}, api.Option{Code: 65535}), record(0, 0, "\xff\xff\x00\x00")},
	} {
		bothWays(t, c.what, c.o, c.r)
	}
	for what, o := range map[string]api.Opt{
		"Size 65536": {Size: 65536}, "Size -1": {Size: -1}, "Ext 256": {Ext: 256}, "Ext -1": {Ext: -1},
		"Version 256": {Version: 256}, "Version -1": {Version: -1}, "Z 32768": {Z: 32768}, "Z -1": {Z: -1},
		"Code 65536": with(api.Opt{}, api.Option{Code: 65536}), "Code -1": with(api.Opt{}, api.Option{Code: -1}),
	} {
		refusesPut(t, what, o)
	}
}

// wrongNumbers gives numbers that so many bits can't tell; many of them would be told if their higher bits, or their sign, were let go.
func wrongNumbers(bits int) []int {
	out := []int{
		math.MinInt, math.MinInt + 1, math.MinInt32, math.MinInt16, -65537, -65536, -32768, -257, -256, -128, -2, -1,
		65536, 65537, 1<<31 - 1, 1 << 31, 1<<32 - 1, 1 << 32, 1<<32 + 1, math.MaxInt - 1, math.MaxInt,
	}
	for i := bits; i < 63; i++ {
		out = append(out, 1<<i, 1<<i+1, 1<<i|(1<<bits-1), -1<<i)
	}
	return slices.DeleteFunc(out, func(x int) bool { return x >= 0 && x < 1<<bits })
}

// What is wrong is refused with nothing beside it and with everything.
func TestWrongNumbers(t *testing.T) {
	for _, f := range numbers() {
		for _, x := range wrongNumbers(f.bits) {
			alone, beside := api.Opt{}, with(full(), api.Option{Code: 12, Data: "abc"})
			*f.at(&alone), *f.at(&beside) = x, x
			refusesPut(t, fmt.Sprintf("%s of %d", f.name, x), alone)
			refusesPut(t, fmt.Sprintf("%s of %d and all else", f.name, x), beside)
		}
	}
}

// Two wrong numbers don't make up for each other.
func TestTwoWrongNumbers(t *testing.T) {
	all := numbers()
	for i, f := range all {
		for _, g := range all[i+1:] {
			for _, x := range []int{math.MinInt, -1, 1 << f.bits, 1 << 32, math.MaxInt} {
				for _, y := range []int{math.MinInt, -1, 1 << g.bits, 1 << 32, math.MaxInt} {
					var o api.Opt
					*f.at(&o), *g.at(&o) = x, y
					refusesPut(t, fmt.Sprintf("%s of %d and %s of %d", f.name, x, g.name, y), o)
				}
			}
		}
	}
}

// A wrong code is refused wherever it stands.
func TestWrongCodes(t *testing.T) {
	good := api.Option{Code: 3, Data: "abc"}
	for _, x := range wrongNumbers(16) {
		bad := api.Option{Code: x, Data: "d"}
		refusesPut(t, fmt.Sprintf("a code of %d alone", x), with(api.Opt{}, bad))
		refusesPut(t, fmt.Sprintf("a code of %d first", x), with(full(), bad, good, good))
		refusesPut(t, fmt.Sprintf("a code of %d between", x), with(full(), good, bad, good))
		refusesPut(t, fmt.Sprintf("a code of %d last", x), with(full(), good, good, bad))
		refusesPut(t, fmt.Sprintf("a code of %d and another", x), with(full(), bad, api.Option{Code: -x}))
	}
}

func TestEveryCode(t *testing.T) {
	for code := range 1 << 16 {
		o := with(api.Opt{}, api.Option{Code: code, Data: "ab"})
		want := record(0, 0, string([]byte{byte(code / 256), byte(code % 256), 0, 2, 'a', 'b'}))
		if r, e := opt.Put(o); r != want || e != api.OK {
			t.Fatalf("P8.1: a code of %d: %s, %d", code, tell(r), e)
		}
		if back, e := opt.Get(want); !same(back, o) || e != api.OK {
			t.Fatalf("P8.1: a code of %d: %s, %d", code, tell(back), e)
		}
	}
}

// Each bit of Class and Ttl alone, and all others without it, belongs to one field and to no other.
func TestEachBitInItsPlace(t *testing.T) {
	class := func(bit int) api.Rr { return record(bit, 0, "") }
	ttl := func(bit int) api.Rr { return record(0, bit, "") }
	places := 0
	for _, c := range []struct {
		field field
		low   int
		lay   func(bit int) api.Rr
	}{{numbers()[0], 0, class}, {numbers()[1], 24, ttl}, {numbers()[2], 16, ttl}, {numbers()[3], 0, ttl}} {
		for i := range c.field.bits {
			alone, rest := api.Opt{}, full()
			*c.field.at(&alone) = 1 << i
			*c.field.at(&rest) -= 1 << i
			one := c.lay(1 << (c.low + i))
			bothWays(t, c.field.name, alone, one)
			bothWays(t, "all but "+c.field.name, rest, record(65535-one.Class, 4294967295-one.Ttl, ""))
			places++
		}
	}
	rest := full()
	rest.Do = false
	bothWays(t, "Do", api.Opt{Do: true}, record(0, 1<<15, ""))
	bothWays(t, "all but Do", rest, record(65535, 4294967295-1<<15, ""))
	if places+1 != 48 {
		t.Errorf("P8.1: %d bits", places+1)
	}
}

// Every value of each pair of a Ttl's bytes and of a Class.
func TestEveryPair(t *testing.T) {
	for x := range 1 << 16 {
		for _, r := range []api.Rr{record(x, 0x5ac3960f, ""), record(0xa53c, x<<16|0x5ac3, ""), record(0xa53c, 0x960f0000|x, "")} {
			if x%7 == 0 {
				checkGet(t, r)
				continue
			}
			o, e := opt.Get(r)
			if back, f := opt.Put(o); back != r || e != api.OK || f != api.OK {
				t.Fatalf("P8.1: %s: %s, %d, %d", tell(r), tell(back), e, f)
			}
		}
	}
}

// zeros gives so many bytes.
func zeros(n int) string {
	return strings.Repeat("\x00", n)
}

// An option's four bytes ahead of its data count, so its data has at most 65,531.
func TestLengthsOfData(t *testing.T) {
	for n, ok := range map[int]bool{
		0: true, 1: true, 3: true, 4: true, 255: true, 256: true, 257: true, 4096: true, 32767: true, 32768: true, 65530: true, 65531: true,
		65532: false, 65533: false, 65534: false, 65535: false, 65536: false, 65537: false, 1<<16 + 4: false, 1 << 17: false, 1 << 20: false,
	} {
		o := with(api.Opt{Size: 7}, api.Option{Code: 12, Data: strings.Repeat("d", n)})
		what := fmt.Sprintf("an option of %d bytes", n)
		if !ok {
			refusesPut(t, what, o)
			refusesPut(t, what+" behind another", with(api.Opt{}, api.Option{Code: 1}, o.Options[0]))
			refusesPut(t, what+" ahead of another", with(api.Opt{}, o.Options[0], api.Option{Code: 1}))
			continue
		}
		bothWays(t, what, o, record(7, 0, "\x00\x0c"+two(n)+strings.Repeat("d", n)))
	}
}

func TestAllOptionsTogether(t *testing.T) {
	option := func(n int) api.Option { return api.Option{Code: 12, Data: zeros(n)} }
	empty := func(n int) []api.Option { return make([]api.Option, n) }
	for _, c := range []struct {
		what    string
		options []api.Option
		sum     int
	}{
		{"one", []api.Option{option(65531)}, 65535},
		{"one, one more", []api.Option{option(65532)}, 65536},
		{"two", []api.Option{option(65527), option(0)}, 65535},
		{"two, one more in the first", []api.Option{option(65528), option(0)}, 65536},
		{"two, one more in the last", []api.Option{option(65527), option(1)}, 65536},
		{"two halves", []api.Option{option(32763), option(32764)}, 65535},
		{"two halves, one more", []api.Option{option(32764), option(32764)}, 65536},
		{"the longest and one of nothing", []api.Option{option(65531), option(0)}, 65539},
		{"two longest", []api.Option{option(65531), option(65531)}, 131070},
		{"so many that their sum is small again", []api.Option{option(65531), option(65531), option(0)}, 131074},
		{"many of nothing", empty(16383), 65532},
		{"many of nothing and one of three", append(empty(16382), option(3)), 65535},
		{"many of nothing and one of four", append(empty(16382), option(4)), 65536},
		{"one more of nothing", empty(16384), 65536},
		{"far more of nothing", empty(1 << 18), 1 << 20},
	} {
		o := with(api.Opt{Size: 1}, c.options...)
		if c.sum > 65535 {
			refusesPut(t, c.what, o)
			continue
		}
		r, e := checkPut(t, o)
		if len(r.Data) != c.sum || e != api.OK {
			t.Errorf("P8.1: %s: %d bytes, %d, want %d", c.what, len(r.Data), e, c.sum)
		}
		checkGet(t, r)
		// Four bytes 0 are a whole option, but here too many.
		refusesGet(t, c.what+" and more behind", record(1, 0, r.Data+zeros(4)))
	}
}

// Codes that are wrong and options that are too long are refused together too, whichever stands first.
func TestWrongOptionsTogether(t *testing.T) {
	bad, long := api.Option{Code: -1}, api.Option{Data: zeros(65532)}
	refusesPut(t, "both, the code first", with(api.Opt{}, bad, long))
	refusesPut(t, "both, the code last", with(api.Opt{}, long, bad))
	refusesPut(t, "both in one", with(api.Opt{}, api.Option{Code: math.MinInt, Data: zeros(70000)}))
	refusesPut(t, "all of them", api.Opt{Size: -1, Ext: -1, Version: -1, Z: -1, Options: []api.Option{bad, long}})
}

func TestNoOption(t *testing.T) {
	for _, options := range [][]api.Option{nil, {}, make([]api.Option, 0, 8)} {
		r, e := opt.Put(with(full(), options...))
		if r != record(65535, 4294967295, "") || e != api.OK {
			t.Errorf("P8.1: %s, %d", tell(r), e)
		}
	}
	if o, e := opt.Get(record(1232, 0, "")); len(o.Options) != 0 || o.Size != 1232 || e != api.OK {
		t.Errorf("P8.1: %s, %d", tell(o), e)
	}
}

func TestWrongRecords(t *testing.T) {
	good := record(1232, 0x01028003, bytesOf(12, "abc"))
	for _, n := range []string{"", "\x01a\x00", "\x00\x00", "\x01", "\x00a", ".", "root", "\xc0\x00", " ", "\x01\x00\x00"} {
		r := good
		r.Name = n
		refusesGet(t, fmt.Sprintf("the name %q", n), r)
	}
	for _, x := range append(wrongNumbers(16), 0, 1, 2, 16, 40, 42, 255, 41<<8, 65535, 41+1<<8, 41+1<<16, 41+1<<32, -41) {
		r := good
		r.Type = x
		refusesGet(t, fmt.Sprintf("the type %d", x), r)
	}
	for _, x := range wrongNumbers(16) {
		r := good
		r.Class = x
		refusesGet(t, fmt.Sprintf("the class %d", x), r)
	}
	for _, x := range wrongNumbers(32) {
		r := good
		r.Ttl = x
		refusesGet(t, fmt.Sprintf("the ttl %d", x), r)
	}
	refusesGet(t, "nothing at all", api.Rr{})
	refusesGet(t, "all of it", api.Rr{Name: "x", Type: -1, Class: -1, Ttl: -1, Data: "x"})
	if o, e := checkGet(t, good); e != api.OK || o.Size != 1232 {
		t.Errorf("P8.1: %s, %d", tell(o), e)
	}
}

// Data of more than 65,535 bytes is that of no record, though its options are whole.
func TestLongData(t *testing.T) {
	for _, c := range []struct {
		data string
		ok   bool
	}{
		{bytesOf(1, zeros(65531)), true},
		{bytesOf(1, zeros(65532)), false},
		{bytesOf(1, zeros(65535)), false},
		{bytesOf(1, zeros(32763)) + bytesOf(2, zeros(32764)), true},
		{bytesOf(1, zeros(32764)) + bytesOf(2, zeros(32764)), false},
		{zeros(65532), true},
		{zeros(65536), false},
		{zeros(1 << 20), false},
	} {
		if o, e := checkGet(t, record(0, 0, c.data)); c.ok != (e == api.OK) || c.ok != (len(o.Options) > 0) {
			t.Errorf("P8.1: %d bytes: %d options, %d", len(c.data), len(o.Options), e)
		}
	}
}

// Data that is cut is that of no record, but for where an option ends.
func TestDataCutAtEachPlace(t *testing.T) {
	options := []api.Option{{Code: 12, Data: "abcde"}, {Code: 3}, {Code: 0x0100, Data: "\x00"}, {Code: 65535, Data: "\x00\x0c\x00\x00"}, {Code: 0}, {Code: 8, Data: strings.Repeat("x", 300)}}
	data, ends := "", map[int]int{0: 0}
	for i, x := range options {
		data += bytesOf(x.Code, x.Data)
		ends[len(data)] = i + 1
	}
	for at := range len(data) + 1 {
		r := record(1232, 0x8000, data[:at])
		count, ok := ends[at]
		if !ok {
			refusesGet(t, fmt.Sprintf("data cut at %d", at), r)
			continue
		}
		bothWays(t, fmt.Sprintf("data cut at %d", at), with(api.Opt{Size: 1232, Do: true}, options[:count]...), r)
	}
	for at := 1; at < len(data); at++ {
		checkGet(t, record(0, 0, data[at:]))
	}
}

// A length that says more than there is is wrong; one that says less leaves what must be an option again.
func TestLengthsThatLie(t *testing.T) {
	for n := range 1 << 16 {
		r := record(0, 0, "\x00\x0c"+two(n)+"abcdefgh")
		o, e := opt.Get(r)
		switch n {
		case 8:
			if !same(o, with(api.Opt{}, api.Option{Code: 12, Data: "abcdefgh"})) || e != api.OK {
				t.Fatalf("P8.1: %s, %d", tell(o), e)
			}
		default:
			if !reflect.DeepEqual(o, api.Opt{}) || e != api.ErrOptForm {
				t.Fatalf("P8.1: a length of %d: %s, %d", n, tell(o), e)
			}
		}
	}
	bothWays(t, "options within what was one", with(api.Opt{}, api.Option{Code: 12, Data: "ab"}, api.Option{Code: 1, Data: "z"}), record(0, 0, "\x00\x0c\x00\x02ab\x00\x01\x00\x01z"))
	bothWays(t, "one of what were options", with(api.Opt{}, api.Option{Code: 12, Data: "ab\x00\x01\x00\x01z"}), record(0, 0, "\x00\x0c\x00\x07ab\x00\x01\x00\x01z"))
}

// Options stand in their row, each as often as it was there.
func TestOneBehindTheOther(t *testing.T) {
	a, b, c := api.Option{Code: 8, Data: "abc"}, api.Option{Code: 12, Data: "\x00\x00"}, api.Option{Code: 3}
	for _, options := range [][]api.Option{{a, b, c}, {c, b, a}, {b, a, c}, {a, a, a}, {c, c}, {a, c, a, b, b, a}, {c, a, c}} {
		data := ""
		for _, x := range options {
			data += bytesOf(x.Code, x.Data)
		}
		bothWays(t, "a row", with(api.Opt{Size: 9}, options...), record(9, 0, data))
	}
}

// others gives records that are no OPT, some of which are like one.
func others() []api.Rr {
	return []api.Rr{
		{Name: root, Type: 1, Class: 1, Ttl: 1, Data: "abcd"},
		{Name: root, Type: 42, Class: 1232, Data: bytesOf(12, "")},
		{Name: root, Type: 0, Class: 1232}, {Name: root, Type: -41}, {Name: root, Type: 41 + 1<<16}, {Name: root, Type: 41 + 1<<32}, {},
	}
}

func TestFindNone(t *testing.T) {
	one := record(1232, 0, bytesOf(12, "abc"))
	for what, m := range map[string]api.Msg{
		"nothing":        {},
		"an empty list":  {Ar: []api.Rr{}},
		"others":         {Ar: others()},
		"one in An":      {An: []api.Rr{one}},
		"one in Ns":      {Ns: []api.Rr{one}},
		"some elsewhere": {An: []api.Rr{one, one}, Ns: []api.Rr{one}, Ar: others()},
		"a question":     {Qs: []api.Question{{Name: root, Type: 41, Class: 1232}}, Ar: others()},
	} {
		if o, n := opt.Find(m); !reflect.DeepEqual(o, api.Opt{}) || n != 0 {
			t.Errorf("P8.2: %s: %s, %d", what, tell(o), n)
		}
		checkFind(t, m)
	}
}

// The one record is found wherever it stands among the additionals, whatever stands elsewhere.
func TestFindOne(t *testing.T) {
	want := with(api.Opt{Size: 1232, Do: true}, api.Option{Code: 12, Data: "abc"})
	one := record(1232, 0x8000, bytesOf(12, "abc"))
	another := record(7, 7, "")
	for at := range len(others()) + 1 {
		ar := slices.Insert(others(), at, one)
		for _, m := range []api.Msg{{Ar: ar}, {An: []api.Rr{another}, Ns: []api.Rr{another, another}, Ar: ar}} {
			if o, n := opt.Find(m); !same(o, want) || n != 1 {
				t.Errorf("P8.2: at %d: %s, %d", at, tell(o), n)
			}
		}
	}
	if o, n := opt.Find(api.Msg{Ar: []api.Rr{record(0, 0, "")}}); !same(o, api.Opt{}) || n != 1 {
		t.Errorf("P8.2: one that says nothing: %s, %d", tell(o), n)
	}
}

func TestFindSeveral(t *testing.T) {
	first, second, bad := record(1, 0, bytesOf(12, "one")), record(2, 0, bytesOf(12, "two")), record(3, 0, "cut")
	firstSays, secondSays := with(api.Opt{Size: 1}, api.Option{Code: 12, Data: "one"}), with(api.Opt{Size: 2}, api.Option{Code: 12, Data: "two"})
	a := others()[0]
	for what, c := range map[string]struct {
		ar    []api.Rr
		want  api.Opt
		count int
	}{
		"two":                             {[]api.Rr{first, second}, firstSays, 2},
		"two, the other way":              {[]api.Rr{second, first}, secondSays, 2},
		"the same twice":                  {[]api.Rr{first, first}, firstSays, 2},
		"others between":                  {[]api.Rr{a, second, a, a, first, a, second, a}, secondSays, 3},
		"a second that is wrong":          {[]api.Rr{first, bad}, firstSays, 2},
		"a first that is wrong":           {[]api.Rr{bad, second}, api.Opt{}, 2},
		"a first that is wrong, and more": {[]api.Rr{a, bad, a, first, second, bad}, api.Opt{}, 4},
		"all wrong":                       {[]api.Rr{bad, bad, bad}, api.Opt{}, 3},
	} {
		m := api.Msg{Ar: c.ar, An: []api.Rr{second}, Ns: []api.Rr{second}}
		if o, n := opt.Find(m); !same(o, c.want) || n != c.count {
			t.Errorf("P8.2: %s: %s, %d, want %s, %d", what, tell(o), n, tell(c.want), c.count)
		}
		checkFind(t, m)
	}
}

// Whatever is wrong with the first record, it is counted, and no other takes its place.
func TestFindFirstIsWrong(t *testing.T) {
	good := record(1232, 0, bytesOf(12, "abc"))
	for what, bad := range map[string]api.Rr{
		"its name": {Name: "\x01a\x00", Type: 41}, "no name": {Type: 41}, "its class": {Name: root, Type: 41, Class: 65536}, "its class below 0": {Name: root, Type: 41, Class: -1},
		"its ttl": {Name: root, Type: 41, Ttl: 1 << 32}, "its ttl below 0": {Name: root, Type: 41, Ttl: -1}, "its data": {Name: root, Type: 41, Data: "\x00"},
		"an option that is cut": {Name: root, Type: 41, Class: 5, Data: bytesOf(12, "abc") + "\x00\x0c\x00\x01"}, "long data": {Name: root, Type: 41, Data: zeros(65536)},
	} {
		if o, n := opt.Find(api.Msg{Ar: []api.Rr{bad, good, good}}); !reflect.DeepEqual(o, api.Opt{}) || n != 3 {
			t.Errorf("P8.2: %s: %s, %d", what, tell(o), n)
		}
		if o, n := opt.Find(api.Msg{Ar: []api.Rr{good, bad}}); o.Size != 1232 || n != 2 {
			t.Errorf("P8.2: %s, second: %s, %d", what, tell(o), n)
		}
	}
}

// What Put gives goes through layer 7's bytes and is found behind them.
func TestThroughMessages(t *testing.T) {
	r := rand.New(rand.NewSource(41))
	for range 500 {
		o := someOpt(r, false, 30)
		x, e := opt.Put(o)
		if e != api.OK {
			t.Fatalf("P8.1: %s: %d", tell(o), e)
		}
		s, e := wire.Put(api.Msg{Qs: []api.Question{{Name: "\x01a\x00", Type: 1, Class: 1}}, Ar: []api.Rr{others()[0], x}})
		if e != api.OK {
			t.Fatalf("P8.1: %s: %d", tell(x), e)
		}
		m, e := wire.Get(s)
		if back, n := opt.Find(m); !same(back, o) || n != 1 || e != api.OK {
			t.Fatalf("P8.2: %s: %s, %d, %d", tell(o), tell(back), n, e)
		}
	}
}

// someNumber gives one of so many bits, likely at an edge and, at times, wrong.
func someNumber(r *rand.Rand, bits int, wrong bool) int {
	top := 1<<bits - 1
	switch {
	case wrong && r.Intn(20) == 0:
		return []int{-1, top + 1, -top - 1, 1 << 32, math.MinInt, math.MaxInt}[r.Intn(6)]
	case r.Intn(3) == 0:
		return []int{0, 1, top - 1, top}[r.Intn(4)]
	}
	return r.Intn(top + 1)
}

func someBytes(r *rand.Rand, n int) string {
	b := make([]byte, n)
	r.Read(b)
	return string(b)
}

// someOpt gives one with a few options, of fewer bytes than most each.
func someOpt(r *rand.Rand, wrong bool, most int) api.Opt {
	o := api.Opt{Do: r.Intn(2) == 0}
	for _, f := range numbers() {
		*f.at(&o) = someNumber(r, f.bits, wrong)
	}
	for range r.Intn(5) {
		o.Options = append(o.Options, api.Option{Code: someNumber(r, 16, wrong), Data: someBytes(r, r.Intn(most))})
	}
	return o
}

func TestSomeOpts(t *testing.T) {
	r := rand.New(rand.NewSource(8))
	seen := map[api.Errno]int{}
	for i := range 10000 {
		most := 40
		if i%50 == 0 {
			most = 60000
		}
		_, e := checkPut(t, someOpt(r, i%2 == 0, most))
		seen[e]++
	}
	if seen[api.OK] < 3000 || seen[api.ErrOptForm] < 500 {
		t.Errorf("not enough of each kind: %v", seen)
	}
}

// Records that Put gives, of whose data some bytes are changed, left out or doubled.
func TestSomeRecords(t *testing.T) {
	r := rand.New(rand.NewSource(88))
	seen := map[api.Errno]int{}
	for range 10000 {
		x, _ := opt.Put(someOpt(r, false, 12))
		b := []byte(x.Data)
		for range r.Intn(3) {
			at := r.Intn(len(b) + 1)
			switch {
			case at == len(b) || r.Intn(4) == 0:
				b = slices.Insert(b, at, []byte{0, byte(r.Intn(3)), 0, byte(r.Intn(6))}[r.Intn(4):]...)
			case r.Intn(3) == 0:
				b = slices.Delete(b, at, min(at+1+r.Intn(4), len(b)))
			default:
				b[at] = byte(r.Intn(8))
			}
		}
		x.Data = string(b)
		if r.Intn(20) == 0 {
			x.Class = someNumber(r, 16, true)
			x.Ttl = someNumber(r, 32, true)
		}
		_, e := checkGet(t, x)
		seen[e]++
	}
	if seen[api.OK] < 2000 || seen[api.ErrOptForm] < 2000 {
		t.Errorf("not enough of each kind: %v", seen)
	}
}

func TestSomeMessages(t *testing.T) {
	r := rand.New(rand.NewSource(888))
	list := func() []api.Rr {
		var out []api.Rr
		for range r.Intn(5) {
			x, _ := opt.Put(someOpt(r, false, 6))
			switch r.Intn(4) {
			case 0:
				x = others()[r.Intn(len(others()))]
			case 1:
				x.Data += someBytes(r, 1+r.Intn(3))
			}
			out = append(out, x)
		}
		return out
	}
	for range 5000 {
		checkFind(t, api.Msg{An: list(), Ns: list(), Ar: list()})
	}
}

// What is handed in is as it was, its spare room too.
func TestArgumentsAreNotChanged(t *testing.T) {
	spare := func() []api.Option {
		return []api.Option{{Code: 12, Data: "abc"}, {Code: 8, Data: "d"}, {Code: -1, Data: "spare"}}
	}
	options := spare()
	o := with(full(), options[:2]...)
	if _, e := opt.Put(o); e != api.OK || !reflect.DeepEqual(options, spare()) {
		t.Errorf("P8.1: the options were changed: %+v", options)
	}
	records := func() []api.Rr {
		return []api.Rr{others()[0], record(1, 2, bytesOf(12, "abc")), record(3, 4, ""), {Name: "spare", Type: 41}}
	}
	ar := records()
	if o, n := opt.Find(api.Msg{Ar: ar[:3]}); n != 2 || o.Size != 1 || !reflect.DeepEqual(ar, records()) {
		t.Errorf("P8.2: the records were changed: %+v", ar)
	}
}

// shares says whether two strings lie in one piece of memory.
func shares(a, b string) bool {
	if a == "" || b == "" {
		return false
	}
	from, to := uintptr(unsafe.Pointer(unsafe.StringData(a))), uintptr(unsafe.Pointer(unsafe.StringData(b)))
	return from < to+uintptr(len(b)) && to < from+uintptr(len(a))
}

func TestNewMemory(t *testing.T) {
	o := with(api.Opt{Size: 1}, api.Option{Code: 12, Data: strings.Repeat("abc", 20)}, api.Option{Code: 8, Data: "defgh"})
	a, _ := opt.Put(o)
	b, _ := opt.Put(o)
	if shares(a.Data, b.Data) || shares(a.Data, o.Options[0].Data) || shares(a.Data, o.Options[1].Data) {
		t.Errorf("P8.1: the data of a record shares memory")
	}
	one, _ := opt.Get(a)
	other, _ := opt.Get(a)
	found, _ := opt.Find(api.Msg{Ar: []api.Rr{a}})
	for i, x := range one.Options {
		if shares(x.Data, a.Data) || shares(x.Data, other.Options[i].Data) || shares(found.Options[i].Data, a.Data) || shares(found.Options[i].Data, x.Data) {
			t.Errorf("P8.1: option %d shares memory", i)
		}
	}
	for _, x := range []api.Opt{one, found} {
		all := x.Options[:cap(x.Options)]
		for i := range all {
			all[i] = api.Option{Code: -1, Data: "changed"}
		}
	}
	if again, e := opt.Get(a); !same(again, o) || !same(other, o) || e != api.OK {
		t.Errorf("P8.1: an answer shares its list: %s, %s", tell(again), tell(other))
	}
}

func TestSeveralGoroutines(t *testing.T) {
	var all sync.WaitGroup
	for g := range 8 {
		all.Go(func() {
			r := rand.New(rand.NewSource(int64(g)))
			for range 1000 {
				o := someOpt(r, false, 20)
				x, e := opt.Put(o)
				back, f := opt.Get(x)
				found, n := opt.Find(api.Msg{Ar: []api.Rr{x, x}})
				if e != api.OK || f != api.OK || n != 2 || !same(back, o) || !same(found, o) {
					t.Errorf("P8.1: %s: %s, %d, %d", tell(o), tell(back), e, f)
					return
				}
			}
		})
	}
	all.Wait()
}

// What costs most: as many options as there may be, and lists and data beyond all bounds.
func TestItEndsSoon(t *testing.T) {
	began := time.Now()
	many := with(api.Opt{}, make([]api.Option, 16383)...)
	beyond := with(api.Opt{}, make([]api.Option, 1<<20)...)
	huge := zeros(1 << 24)
	list := slices.Repeat([]api.Rr{record(0, 0, zeros(65532))}, 1<<12)
	for range 20 {
		checkPut(t, many)
		refusesPut(t, "options beyond all bounds", beyond)
		refusesPut(t, "data beyond all bounds", with(api.Opt{}, api.Option{Data: huge}))
		refusesGet(t, "data beyond all bounds", record(0, 0, huge))
		if o, n := opt.Find(api.Msg{Ar: list}); len(o.Options) != 16383 || n != len(list) {
			t.Errorf("P8.2: %d options, %d", len(o.Options), n)
		}
	}
	if took := time.Since(began); took > 20*time.Second {
		t.Errorf("it took %v", took)
	}
}

func FuzzRecords(f *testing.F) {
	f.Add("", 0, 0, 0, "", 0, 0, 0, 0, false, 0, 0, "")
	f.Add(root, 41, 1232, 0x8000, bytesOf(12, "abc")+bytesOf(8, ""), 1232, 0, 0, 0, true, 12, 8, "abc")
	f.Add(root, 41, 65536, 1<<32, "\x00\x0c\x00\x04abc", 65536, 256, -1, 32768, true, -1, 65536, zeros(300))
	f.Fuzz(func(t *testing.T, n string, kind, class, ttl int, data string, size, ext, version, z int, do bool, code, other int, s string) {
		x := api.Rr{Name: n, Type: kind, Class: class, Ttl: ttl, Data: data}
		checkGet(t, x)
		checkGet(t, record(class, ttl, data))
		y, _ := checkPut(t, api.Opt{Size: size, Ext: ext, Version: version, Do: do, Z: z, Options: []api.Option{{Code: code, Data: s}, {Code: other, Data: data}}})
		checkFind(t, api.Msg{An: []api.Rr{y}, Ar: []api.Rr{x, y, record(class, ttl, data)}})
	})
}
