package class_test

import (
	"bytes"
	"fmt"
	"slices"
	"strings"
	"testing"

	"wimple/api"
	"wimple/class"
)

const root = "\x00"

// named gives the name of the labels that stand between dots; of nothing the root.
func named(s string) string {
	out := ""
	for _, label := range strings.Split(s, ".") {
		if label != "" {
			out += string([]byte{byte(len(label))}) + label
		}
	}
	return out + root
}

// tell shortens what is told.
func tell(x any) string {
	s := fmt.Sprintf("%+q", fmt.Sprintf("%+v", x))
	if len(s) > 800 {
		return s[:800] + ".."
	}
	return s
}

// rr gives a record of the name that stands between dots.
func rr(n string, kind, ttl int, data string) api.Rr {
	return api.Rr{Name: named(n), Type: kind, Class: api.ClassIn, Ttl: ttl, Data: data}
}

func row(rrs ...api.Rr) []api.Rr {
	return rrs
}

// ns gives a TypeNs, soa a TypeSoa, txt a TypeTxt, cname a TypeCname, a a TypeA.
func ns(n, host string) api.Rr { return rr(n, 2, 60, named(host)) }
func soa(n string) api.Rr      { return rr(n, 6, 60, root+root+strings.Repeat("\x00", 20)) }
func txt(n string) api.Rr      { return rr(n, 16, 60, "\x04text") }
func cname(n string) api.Rr    { return rr(n, 5, 60, named("else.where")) }
func a(n string, addr byte) api.Rr {
	return rr(n, 1, 60, string([]byte{0, 0, 0, addr}))
}

// The target that most tests look for, below a cut of one label, and the questions that may be asked for it.
var (
	target = api.Task{Name: named("www.Zone.example"), Type: api.TypeTxt, Cut: named("example")}
	full   = api.Step{Name: named("www.zone.Example"), Type: api.TypeTxt}
	typed  = api.Step{Name: named("www.zone.Example"), Type: api.TypeA}
	short  = api.Step{Name: named("zone.example"), Type: api.TypeA}
	shortT = api.Step{Name: named("zone.example"), Type: api.TypeTxt}
	atCut  = api.Step{Name: named("Example"), Type: api.TypeA}
)

// mayName is chapter 1's head.
func mayName(n string) bool {
	size := len(n)
	for n != "" && n[0] >= 1 && n[0] <= 63 && len(n) > int(n[0]) {
		n = n[1+n[0]:]
	}
	return n == root && size <= 255
}

// folded is chapter 2's head: no length of a label is as great as a letter.
func folded(n string) string {
	out := []byte(n)
	for i, c := range out {
		if c >= 65 && c <= 90 {
			out[i] = c + 32
		}
	}
	return string(out)
}

// great gives a name with its small letters made great.
func great(n string) string {
	out := []byte(n)
	for i, c := range out {
		if c >= 97 && c <= 122 {
			out[i] = c - 32
		}
	}
	return string(out)
}

// backwards gives the labels of a name, folded, the last one ahead.
func backwards(n string) []string {
	var out []string
	for n = folded(n); n != root; n = n[1+n[0]:] {
		out = append([]string{n[1 : 1+n[0]]}, out...)
	}
	return out
}

// compare is P2.3 of two names.
func compare(a, b string) int {
	return slices.CompareFunc(backwards(a), backwards(b), func(x, y string) int { return bytes.Compare([]byte(x), []byte(y)) })
}

// isSame and isAbove are chapter 2's head.
func isSame(a, b string) bool {
	return mayName(a) && mayName(b) && folded(a) == folded(b)
}

func isAbove(a, b string) bool {
	if !mayName(a) || !mayName(b) {
		return false
	}
	x, y := backwards(a), backwards(b)
	return len(x) <= len(y) && slices.Equal(x, y[:len(x)])
}

// count tells of how many of the records something holds.
func count(rrs []api.Rr, holds func(x api.Rr) bool) int {
	k := 0
	for _, x := range rrs {
		if holds(x) {
			k++
		}
	}
	return k
}

// isReferral is P21.1's word: how many TypeNs are told, and how many of these agree with what the first one is.
func isReferral(m api.Msg, t api.Task, s api.Step) bool {
	first := slices.IndexFunc(m.Ns, func(x api.Rr) bool { return x.Type == 2 })
	if first < 0 || m.Head.Aa || len(m.An) != 0 {
		return false
	}
	n := m.Ns[first].Name
	all := count(m.Ns, func(x api.Rr) bool { return x.Type == 2 })
	one := count(m.Ns, func(x api.Rr) bool { return x.Type == 2 && isSame(x.Name, n) })
	return all == one && isAbove(t.Cut, n) && !isSame(t.Cut, n) && isAbove(n, s.Name)
}

// wantOf is P21.1, read from the other end: what is said without an error, first of a full question, then of one that is not.
func wantOf(m api.Msg, t api.Task, s api.Step) (int, api.Errno) {
	if !mayName(t.Name) || !mayName(t.Cut) || !mayName(s.Name) || !isAbove(t.Cut, s.Name) || !isAbove(s.Name, t.Name) {
		return 0, 2100
	}
	isFull := isSame(s.Name, t.Name) && s.Type == t.Type
	switch {
	case m.Head.Tc:
		return 0, 0
	case m.Head.Rcode != 0 && !isFull:
		return 2, 0
	case m.Head.Rcode == 3:
		return 6, 0
	case m.Head.Rcode != 0:
		return 0, 0
	case isFull:
		return wantOfFull(m, t, s), 0
	case isReferral(m, t, s):
		return 1, 0
	}
	return 3, 0
}

func wantOfFull(m api.Msg, t api.Task, s api.Step) int {
	own := count(m.An, func(x api.Rr) bool { return x.Type == t.Type && isSame(x.Name, t.Name) })
	names := count(m.An, func(x api.Rr) bool { return x.Type == 5 && isSame(x.Name, t.Name) })
	zones := count(m.Ns, func(x api.Rr) bool { return x.Type == 6 && isAbove(x.Name, t.Name) })
	switch {
	case own > 0:
		return 4
	case names > 0 && t.Type != 5:
		return 5
	case isReferral(m, t, s):
		return 1
	case m.Head.Aa || zones > 0:
		return 7
	}
	return 0
}

// wantRefer is P21.2, by going through all pairs of records.
func wantRefer(m api.Msg, t api.Task, s api.Step) (api.Delegation, api.Errno) {
	if kind, e := wantOf(m, t, s); kind != 1 || e != 0 {
		return api.Delegation{}, 2100
	}
	d := api.Delegation{Ttl: 86400}
	for _, x := range m.Ns {
		if x.Type != 2 {
			continue
		}
		d.Cut = folded(x.Name)
		if !mayName(x.Data) {
			continue
		}
		if x.Ttl < d.Ttl {
			d.Ttl = x.Ttl
		}
		at := 0
		for at < len(d.Hosts) && compare(d.Hosts[at], x.Data) < 0 {
			at++
		}
		if at == len(d.Hosts) || d.Hosts[at] != folded(x.Data) {
			d.Hosts = slices.Insert(d.Hosts, at, folded(x.Data))
		}
	}
	if len(d.Hosts) > 8 {
		d.Hosts = d.Hosts[:8]
	}
	d.Glue = wantGlue(m.Ar, d.Hosts)
	return d, 0
}

func wantGlue(ar []api.Rr, hosts []string) []api.Binding {
	type pair struct{ host, data string }
	seen := map[pair]int{}
	var out []api.Binding
	for _, x := range ar {
		p := pair{folded(x.Name), x.Data}
		if x.Type != 1 || len(x.Data) != 4 || !slices.Contains(hosts, p.host) || seen[p] > 0 || len(out) == 8 {
			continue
		}
		seen[p]++
		addr := 0
		for i := range 4 {
			addr = addr*256 + int(x.Data[i])
		}
		until := x.Ttl
		if until > 86400 {
			until = 86400
		}
		out = append(out, api.Binding{Host: p.host, Addr: addr, Until: until})
	}
	return out
}

// same says whether two delegations are, an empty list and nil being one.
func same(a, b api.Delegation) bool {
	return a.Cut == b.Cut && a.Ttl == b.Ttl && slices.Equal(a.Hosts, b.Hosts) && slices.Equal(a.Glue, b.Glue)
}

// check holds Of against P21.1 and Refer against P21.2.
func check(t *testing.T, m api.Msg, x api.Task, s api.Step) int {
	t.Helper()
	kind, e := class.Of(m, x, s)
	if want, f := wantOf(m, x, s); kind != want || e != f {
		t.Fatalf("P21.1: Of(%s, %s, %s) = %d, %d, want %d, %d", tell(m), tell(x), tell(s), kind, e, want, f)
	}
	d, e := class.Refer(m, x, s)
	if want, f := wantRefer(m, x, s); !same(d, want) || e != f {
		t.Fatalf("P21.2: Refer(%s, %s, %s) = %s, %d, want %s, %d", tell(m), tell(x), tell(s), tell(d), e, tell(want), f)
	}
	return kind
}

// says holds Of against a class that is written out.
func says(t *testing.T, what string, m api.Msg, x api.Task, s api.Step, want int) {
	t.Helper()
	if kind := check(t, m, x, s); kind != want {
		t.Errorf("P21.1: %s: %d, want %d", what, kind, want)
	}
}

// refuses says that neither call takes the task and the question, whatever the reply.
func refuses(t *testing.T, what string, m api.Msg, x api.Task, s api.Step) {
	t.Helper()
	if kind, e := class.Of(m, x, s); kind != 0 || e != api.ErrClassForm {
		t.Errorf("P21.1: %s: %d, %d, want 0, %d", what, kind, e, api.ErrClassForm)
	}
	refersNot(t, what, m, x, s)
}

// refersNot says that Refer refuses the reply, with nothing beside the error.
func refersNot(t *testing.T, what string, m api.Msg, x api.Task, s api.Step) {
	t.Helper()
	if d, e := class.Refer(m, x, s); d.Cut != "" || d.Hosts != nil || d.Glue != nil || d.Ttl != 0 || e != api.ErrClassForm {
		t.Errorf("P21.2: %s: %s, %d, want %d with nothing beside it", what, tell(d), e, api.ErrClassForm)
	}
}

// refers holds Refer against a delegation that is written out.
func refers(t *testing.T, what string, m api.Msg, want api.Delegation) {
	t.Helper()
	check(t, m, target, full)
	if d, e := class.Refer(m, target, full); !same(d, want) || e != api.OK {
		t.Errorf("P21.2: %s: %s, %d, want %s", what, tell(d), e, tell(want))
	}
}

// reply gives a message of parts.
func reply(an, ns, ar []api.Rr) api.Msg {
	q := api.Question{Name: full.Name, Type: full.Type, Class: api.ClassIn}
	return api.Msg{Head: api.Head{Id: 7, Qr: true}, Qs: []api.Question{q}, An: an, Ns: ns, Ar: ar}
}

// aa, cut and failing give m with a bit or an Rcode.
func aa(m api.Msg) api.Msg {
	m.Head.Aa = true
	return m
}

func cut(m api.Msg) api.Msg {
	m.Head.Tc = true
	return m
}

func failing(m api.Msg, rcode int) api.Msg {
	m.Head.Rcode = rcode
	return m
}

// replies gives a reply of each kind that servers send.
func replies() map[string]api.Msg {
	refer := row(ns("Zone.example", "b.host"), ns("zone.example", "a.host"))
	return map[string]api.Msg{
		"nothing":                reply(nil, nil, nil),
		"an answer":              reply(row(txt("WWW.zone.example")), nil, nil),
		"an answer and a cname":  reply(row(cname("www.zone.example"), txt("www.zone.example")), nil, nil),
		"a cname":                reply(row(cname("www.zone.exAmple"), a("else.where", 5)), nil, nil),
		"another's records":      reply(row(txt("w.zone.example"), cname("zone.example")), nil, nil),
		"records of other types": reply(row(a("www.zone.example", 5), soa("www.zone.example")), nil, nil),
		"a referral":             reply(nil, refer, row(a("a.host", 5), a("B.host", 6))),
		"a referral and a soa":   reply(nil, append(refer, soa("example")), nil),
		"no data":                reply(nil, row(soa("zone.Example")), nil),
		"a soa elsewhere":        reply(nil, row(soa("w.zone.example"), soa("a.www.zone.example")), nil),
		"a referral upward":      reply(nil, row(ns("", "a.host")), row(a("a.host", 5))),
		"a referral to the cut":  reply(nil, row(ns("EXAMPLE", "a.host")), row(a("a.host", 5))),
	}
}

// ofReplies tells for each of these the class of a full question, of a full one with Aa, and of one that is not full.
func ofReplies() map[string][3]int {
	return map[string][3]int{
		"nothing":                {api.ClassBad, api.ClassNodata, api.ClassStep},
		"an answer":              {api.ClassAnswer, api.ClassAnswer, api.ClassStep},
		"an answer and a cname":  {api.ClassAnswer, api.ClassAnswer, api.ClassStep},
		"a cname":                {api.ClassCname, api.ClassCname, api.ClassStep},
		"another's records":      {api.ClassBad, api.ClassNodata, api.ClassStep},
		"records of other types": {api.ClassBad, api.ClassNodata, api.ClassStep},
		"a referral":             {api.ClassRefer, api.ClassNodata, api.ClassRefer},
		"a referral and a soa":   {api.ClassRefer, api.ClassNodata, api.ClassRefer},
		"no data":                {api.ClassNodata, api.ClassNodata, api.ClassStep},
		"a soa elsewhere":        {api.ClassBad, api.ClassNodata, api.ClassStep},
		"a referral upward":      {api.ClassBad, api.ClassNodata, api.ClassStep},
		"a referral to the cut":  {api.ClassBad, api.ClassNodata, api.ClassStep},
	}
}

func TestOrdinaryReplies(t *testing.T) {
	for what, m := range replies() {
		want := ofReplies()[what]
		says(t, what, m, target, full, want[0])
		says(t, what+", Aa", aa(m), target, full, want[1])
		for _, s := range []api.Step{short, shortT, typed} {
			says(t, fmt.Sprint(what, ", ", tell(s)), m, target, s, want[2])
			says(t, fmt.Sprint(what, ", Aa, ", tell(s)), aa(m), target, s, api.ClassStep)
		}
		// A question for the cut itself, which the zone is not above.
		says(t, what+", of the cut", m, target, atCut, api.ClassStep)
	}
}

// Each class is come to by an ordinary reply.
func TestEachClass(t *testing.T) {
	seen := map[int]int{}
	for _, m := range replies() {
		for _, s := range []api.Step{full, short} {
			seen[check(t, m, target, s)]++
			seen[check(t, failing(m, api.RcodeNx), target, s)]++
		}
	}
	if len(seen) != 8 {
		t.Errorf("P21.1: classes were come to: %v", seen)
	}
}

// Tc is ahead of all else, but not of a wrong task or question.
func TestTcIsAhead(t *testing.T) {
	for what, m := range replies() {
		for _, s := range []api.Step{full, short, typed, atCut} {
			for _, rcode := range []int{0, 2, 3, 15} {
				x := failing(cut(m), rcode)
				says(t, what+", Tc", x, target, s, api.ClassBad)
				says(t, what+", Tc, Aa", aa(x), target, s, api.ClassBad)
				refersNot(t, what+", Tc", x, target, s)
			}
		}
		refuses(t, what+", Tc", cut(m), api.Task{}, full)
	}
}

// Each Rcode, and some that no header has, with a full question and with others: what the message holds turns nothing.
func TestEachRcode(t *testing.T) {
	codes := []int{-1, 16, 17, 19, 255, 259, 65535, 65539, 1 << 40}
	for rcode := 1; rcode < 16; rcode++ {
		codes = append(codes, rcode)
	}
	for what, m := range replies() {
		for _, rcode := range codes {
			want := api.ClassBad
			if rcode == 3 {
				want = api.ClassNx
			}
			for _, x := range []api.Msg{failing(m, rcode), aa(failing(m, rcode))} {
				says(t, fmt.Sprint(what, ", ", rcode), x, target, full, want)
				refersNot(t, fmt.Sprint(what, ", ", rcode), x, target, full)
				for _, s := range []api.Step{short, shortT, typed, atCut} {
					says(t, fmt.Sprint(what, ", ", rcode, ", ", tell(s)), x, target, s, api.ClassBroken)
					refersNot(t, fmt.Sprint(what, ", ", rcode), x, target, s)
				}
			}
		}
	}
}

// A question is full by its name, in whatever letters, and its type.
func TestFullQuestions(t *testing.T) {
	m := failing(reply(nil, nil, nil), api.RcodeNx)
	for _, n := range []string{"www.zone.example", "WWW.ZONE.EXAMPLE", "wWw.zOnE.eXaMpLe"} {
		says(t, n, m, target, api.Step{Name: named(n), Type: api.TypeTxt}, api.ClassNx)
		for _, kind := range []int{0, 1, 15, 17, -16, 65552, 255} {
			says(t, n, m, target, api.Step{Name: named(n), Type: kind}, api.ClassBroken)
		}
	}
	for _, n := range []string{"zone.example", "example"} {
		says(t, n, m, target, api.Step{Name: named(n), Type: api.TypeTxt}, api.ClassBroken)
	}
	// Types that are none are told apart too.
	for _, kind := range []int{0, -1, 65536} {
		x, s := target, full
		x.Type, s.Type = kind, kind
		says(t, "a type", m, x, s, api.ClassNx)
		says(t, "a type", reply(row(rr("www.zone.example", kind, 1, "")), nil, nil), x, s, api.ClassAnswer)
	}
}

// Letters from A to Z alone are one with others.
func TestLettersAlone(t *testing.T) {
	for c := range 256 {
		for d := range 256 {
			x := api.Task{Name: "\x01" + string([]byte{byte(c)}) + root, Type: 16, Cut: root}
			s := api.Step{Name: "\x01" + string([]byte{byte(d)}) + root, Type: 16}
			isOne := c == d || max(c, d) == min(c, d)+32 && min(c, d) >= 65 && min(c, d) <= 90
			_, e := class.Of(api.Msg{}, x, s)
			if (e == api.OK) != isOne {
				t.Fatalf("P21.1: bytes %d and %d: %d", c, d, e)
			}
			if isOne {
				says(t, "an answer", api.Msg{An: row(api.Rr{Name: s.Name, Type: 16})}, x, s, api.ClassAnswer)
			}
		}
	}
}

// An answer has the target's name and its type; a record of one of them alone is none.
func TestAnswers(t *testing.T) {
	other := []api.Rr{txt("zone.example"), txt("w.www.zone.example"), txt("ww.zone.example"), txt(""), a("www.zone.example", 5), ns("www.zone.example", "h"), soa("www.zone.example"), {Name: "no name", Type: 16}, {Name: full.Name[1:], Type: 16}, {Name: full.Name + root, Type: 16}, {Type: 16}}
	for _, x := range other {
		says(t, tell(x), reply(row(x), nil, nil), target, full, api.ClassBad)
		says(t, tell(x), aa(reply(row(x), nil, nil)), target, full, api.ClassNodata)
	}
	says(t, "all of these", reply(other, nil, nil), target, full, api.ClassBad)
	for i := range len(other) + 1 {
		own := slices.Insert(slices.Clone(other), i, txt("www.ZONE.example"))
		says(t, "one among them", reply(own, nil, nil), target, full, api.ClassAnswer)
		says(t, "one among them", reply(own, nil, nil), target, typed, api.ClassStep)
		led := slices.Insert(slices.Clone(other), i, cname("WWW.zone.example"))
		says(t, "a cname among them", reply(led, nil, nil), target, full, api.ClassCname)
		says(t, "a cname among them", reply(led, nil, nil), target, typed, api.ClassStep)
		says(t, "both, the cname ahead", reply(append(led, txt("www.zone.example")), nil, nil), target, full, api.ClassAnswer)
		says(t, "both, the cname behind", reply(append(own, cname("www.zone.example")), nil, nil), target, full, api.ClassAnswer)
	}
	// What stands in other parts is no answer.
	says(t, "in Ns", reply(nil, row(txt("www.zone.example")), nil), target, full, api.ClassBad)
	says(t, "in Ar", reply(nil, nil, row(txt("www.zone.example"))), target, full, api.ClassBad)
	says(t, "a cname in Ns", reply(nil, row(cname("www.zone.example")), nil), target, full, api.ClassBad)
}

// The class, the Ttl and the data of a record turn nothing: Has asks for its name and its type.
func TestWhateverElseARecordIs(t *testing.T) {
	for _, kind := range []int{0, 2, 3, 255, -1} {
		for _, ttl := range []int{-1, 0, 1 << 40} {
			for _, data := range []string{"", "x", root} {
				x := api.Rr{Name: target.Name, Type: 16, Class: kind, Ttl: ttl, Data: data}
				says(t, "an answer", reply(row(x), nil, nil), target, full, api.ClassAnswer)
				x.Type = 5
				says(t, "a cname", reply(row(x), nil, nil), target, full, api.ClassCname)
				x.Type = 6
				says(t, "no data", reply(nil, row(x), nil), target, full, api.ClassNodata)
				x.Type = 2
				says(t, "a referral", reply(nil, row(x), nil), target, full, api.ClassRefer)
			}
		}
	}
}

// Where a TypeCname is asked for, one is an answer.
func TestCnameAskedFor(t *testing.T) {
	x := target
	x.Type = api.TypeCname
	s := api.Step{Name: full.Name, Type: api.TypeCname}
	says(t, "a cname", reply(row(cname("WWW.zone.example")), nil, nil), x, s, api.ClassAnswer)
	says(t, "another's", reply(row(cname("zone.example")), nil, nil), x, s, api.ClassBad)
	says(t, "another type", reply(row(txt("www.zone.example")), nil, nil), x, s, api.ClassBad)
	says(t, "a cname, asked for a txt", reply(row(cname("www.zone.example")), nil, nil), x, full, api.ClassStep)
	says(t, "a cname, a txt looked for", reply(row(cname("www.zone.example")), nil, nil), target, s, api.ClassStep)
}

// A TypeSoa counts, if its name is above the target's, be it above the cut or below the name asked.
func TestSoas(t *testing.T) {
	for n, isNodata := range map[string]int{"www.zone.example": 1, "WWW.Zone.Example": 1, "zone.example": 1, "example": 1, "": 1, "a.www.zone.example": 0, "ww.zone.example": 0, "examplf": 0, "zone": 0} {
		want := []int{api.ClassBad, api.ClassNodata}[isNodata]
		says(t, n, reply(nil, row(soa(n)), nil), target, full, want)
		says(t, n+", behind others", reply(nil, row(txt("example"), soa("other"), soa(n)), nil), target, full, want)
		says(t, n+", beside an answer of others", reply(row(txt("example")), row(soa(n)), nil), target, full, want)
		says(t, n+", not full", reply(nil, row(soa(n)), nil), target, short, api.ClassStep)
		says(t, n+", of another type", reply(nil, row(a(n, 5)), nil), target, full, api.ClassBad)
		says(t, n+", in An", reply(row(soa(n)), nil, nil), target, full, api.ClassBad)
		says(t, n+", in Ar", reply(nil, nil, row(soa(n))), target, full, api.ClassBad)
	}
	for _, n := range []string{"", "example", named("example")[1:], named("example") + root} {
		says(t, "no name", reply(nil, row(api.Rr{Name: n, Type: 6}), nil), target, full, api.ClassBad)
	}
}

// Tasks and questions that may not be: what is no name, and what isn't above.
func TestWrongTasksAndQuestions(t *testing.T) {
	with := func(n, c, s string) (api.Task, api.Step) {
		return api.Task{Name: n, Type: 16, Cut: c}, api.Step{Name: s, Type: 16}
	}
	wrong := []string{"", "a", "\x01", "\x01a", "\x01a\x00\x00", "\x00\x00", "\x40" + strings.Repeat("a", 64) + root, strings.Repeat("\x01a", 127) + "\x01" + root, strings.Repeat("\x01a", 128) + root, "\xc0\x00"}
	for what, m := range replies() {
		for _, n := range wrong {
			for _, all := range [][3]string{{n, root, root}, {root, n, root}, {root, root, n}, {n, n, root}, {n, root, n}, {root, n, n}, {n, n, n}, {n, target.Cut, full.Name}, {target.Name, n, full.Name}, {target.Name, target.Cut, n}} {
				x, s := with(all[0], all[1], all[2])
				refuses(t, what+", no name", m, x, s)
				refuses(t, what+", no name, Tc", cut(m), x, s)
				refuses(t, what+", no name, an Rcode", failing(m, 3), x, s)
			}
		}
		for _, all := range [][3]string{{"a.b.c", "a.b.c", "b.c"}, {"a.b.c", "d", "b.c"}, {"a.b.c", "b.c", "c"}, {"a.b.c", "c", ""}, {"a.b.c", "c", "x.c"}, {"a.b.c", "c", "z.a.b.c"}, {"a.b.c", "", "b"}, {"a.b.c", "", "a.b"}, {"a.b.c", "z.a.b.c", "a.b.c"}, {"", "", "c"}, {"", "c", ""}, {"c", "c", "b.c"}, {"a.b.c", "b", "b.c"}, {"a.b.c", "c", "B.d"}} {
			x, s := with(named(all[0]), named(all[1]), named(all[2]))
			refuses(t, fmt.Sprint(what, ", ", all), m, x, s)
			refuses(t, fmt.Sprint(what, ", Tc, ", all), cut(m), x, s)
			refuses(t, fmt.Sprint(what, ", an Rcode, ", all), failing(m, 2), x, s)
		}
	}
	x, s := with(named("a.b.c"), named("a.b.c"), named("a.b.c"))
	says(t, "all one", failing(reply(nil, nil, nil), 3), x, s, api.ClassNx)
	x, s = with(root, root, root)
	says(t, "the root", failing(reply(nil, nil, nil), 3), x, s, api.ClassNx)
	long := strings.Repeat("\x01a", 127) + root
	x, s = with(great(long), long[2:], long)
	says(t, "the longest name", failing(reply(nil, nil, nil), 3), x, s, api.ClassNx)
}

// The other fields of a task and of a head turn nothing.
func TestOtherFields(t *testing.T) {
	for what, m := range replies() {
		for _, s := range []api.Step{full, typed, short} {
			want := check(t, m, target, s)
			d, _ := class.Refer(m, target, s)
			x := target
			x.Known, x.Steps, x.Fallback, x.Server, x.Tries = "no name", -5, true, 1<<40, -1
			says(t, what+", another task", m, x, s, want)
			other := m
			other.Head = api.Head{Id: -1, Op: 15, Rd: true, Ra: true, Z: 7, Aa: m.Head.Aa}
			other.Qs = nil
			says(t, what+", another head", other, x, s, want)
			if got, _ := class.Refer(other, x, s); !same(got, d) {
				t.Errorf("P21.2: %s: %s, want %s", what, tell(got), tell(d))
			}
		}
	}
}
