package class_test

import (
	"fmt"
	"math/rand"
	"slices"
	"strings"
	"sync"
	"testing"
	"unsafe"

	"wimple/api"
	"wimple/class"
)

// lent gives s in memory that may be written over.
func lent(s string) ([]byte, string) {
	b := []byte(s)
	return b, unsafe.String(unsafe.SliceData(b), len(b))
}

// lender lends texts, and knows all that it lent.
type lender struct {
	lent [][]byte
	was  []string
}

func (l *lender) lend(s string) string {
	b, own := lent(s)
	l.lent, l.was = append(l.lent, b), append(l.was, strings.Clone(s))
	return own
}

// lendAll gives m, x and s in memory of their own, with room behind each list.
func (l *lender) lendAll(m api.Msg, x api.Task, s api.Step) (api.Msg, api.Task, api.Step) {
	out := api.Msg{Head: m.Head}
	for _, q := range m.Qs {
		q.Name = l.lend(q.Name)
		out.Qs = append(out.Qs, q)
	}
	for i, part := range [][]api.Rr{m.An, m.Ns, m.Ar} {
		to := []*[]api.Rr{&out.An, &out.Ns, &out.Ar}[i]
		*to = make([]api.Rr, 0, len(part)+3)
		for _, x := range part {
			x.Name, x.Data = l.lend(x.Name), l.lend(x.Data)
			*to = append(*to, x)
		}
		behind := (*to)[:cap(*to)]
		for k := len(part); k < len(behind); k++ {
			behind[k] = api.Rr{Name: l.lend("behind"), Type: 2, Ttl: k}
		}
	}
	x.Name, x.Cut, x.Known = l.lend(x.Name), l.lend(x.Cut), l.lend(x.Known)
	s.Name = l.lend(s.Name)
	return out, x, s
}

// isSound says whether nothing of what was lent was written to.
func (l *lender) isSound() bool {
	for i, b := range l.lent {
		if string(b) != l.was[i] {
			return false
		}
	}
	return true
}

// spoil writes over all that was lent.
func (l *lender) spoil() {
	for _, b := range l.lent {
		for i := range b {
			b[i] = 'x'
		}
	}
}

// shown gives all that m's lists hold, and the room behind them.
func shown(m api.Msg) string {
	return fmt.Sprintf("%+v%+v%+v%+v", m.Qs[:cap(m.Qs)], m.An[:cap(m.An)], m.Ns[:cap(m.Ns)], m.Ar[:cap(m.Ar)])
}

// wide gives a referral of as many hosts and addresses as are told and more, some of them in several ways.
func wide() api.Msg {
	m := reply(nil, row(zoneNs(90000, "no name"), txt("Else")), row(txt("Else")))
	for i := range 12 {
		host := string([]byte{byte('L' - i)}) + ".Host"
		m.Ns = append(m.Ns, rr("Zone.example", 2, 90000-i, named(host)), ns("zone.example", strings.ToLower(host)))
		m.Ar = append(m.Ar, a(host, byte(i)), a(strings.ToLower(host), byte(i)), a(host, byte(i+1)))
	}
	return m
}

// all gives the replies that servers send, and the wide one.
func all() map[string]api.Msg {
	out := replies()
	out["a wide referral"] = wide()
	return out
}

// Neither the lists, the room behind them nor the texts are written to.
func TestNothingIsWrittenTo(t *testing.T) {
	for what, was := range all() {
		for _, s := range []api.Step{full, short, {Name: "no name"}} {
			l := &lender{}
			m, x, asked := l.lendAll(was, target, s)
			before, task := shown(m), x
			for range 3 {
				class.Of(m, x, asked)
				class.Refer(m, x, asked)
			}
			if shown(m) != before || x != task || asked != s || !l.isSound() {
				t.Errorf("R4: %s was changed to %s", what, tell(m))
			}
		}
	}
}

// textsOf gives all names of d.
func textsOf(d api.Delegation) []string {
	out := append([]string{d.Cut}, d.Hosts...)
	for _, b := range d.Glue {
		out = append(out, b.Host)
	}
	return out
}

// copyOf gives d in memory of its own.
func copyOf(d api.Delegation) api.Delegation {
	d.Cut = strings.Clone(d.Cut)
	d.Hosts = slices.Clone(d.Hosts)
	for i, h := range d.Hosts {
		d.Hosts[i] = strings.Clone(h)
	}
	d.Glue = slices.Clone(d.Glue)
	for i := range d.Glue {
		d.Glue[i].Host = strings.Clone(d.Glue[i].Host)
	}
	return d
}

// What a referral tells is in memory of its own: what becomes of the reply, the task and the question doesn't reach it.
func TestWritingOverTheReply(t *testing.T) {
	for what, was := range all() {
		for _, s := range []api.Step{full, short} {
			l := &lender{}
			m, x, asked := l.lendAll(was, target, s)
			d, e := class.Refer(m, x, asked)
			want, f := wantRefer(was, target, s)
			l.spoil()
			for _, part := range [][]api.Rr{m.An, m.Ns, m.Ar} {
				clear(part[:cap(part)])
			}
			if !same(d, want) || e != f {
				t.Errorf("R4: %s: writing over the reply: %s, want %s", what, tell(d), tell(want))
			}
		}
	}
}

// No two names that are told lie in one place, nor where a name that was handed in lies. (Texts of one byte, which Go lays down once, are let be: no one can write to them.)
func TestNamesOfTheirOwn(t *testing.T) {
	l := &lender{}
	m, x, asked := l.lendAll(wide(), target, full)
	seen, texts := map[*byte]int{}, 0
	for _, b := range l.lent {
		seen[unsafe.SliceData(b)]++
		texts++
	}
	for range 3 {
		d, _ := class.Refer(m, x, asked)
		for _, n := range textsOf(d) {
			seen[unsafe.StringData(n)]++
			texts++
		}
	}
	if len(seen) != texts || texts < 50 {
		t.Errorf("R4: %d names lie in %d places", texts, len(seen))
	}
}

// spoil writes over all that d holds, and over the room behind its lists.
func spoil(d api.Delegation) {
	for i := range d.Hosts[:cap(d.Hosts)] {
		d.Hosts[:cap(d.Hosts)][i] = "spoilt"
	}
	for i := range d.Glue[:cap(d.Glue)] {
		d.Glue[:cap(d.Glue)][i] = api.Binding{Cut: "spoilt", Host: "spoilt", Addr: -1, From: "spoilt", Until: -1}
	}
}

// What is handed out and afterwards changed turns nothing of what was handed out, or is handed out later.
func TestChangesTurnNothing(t *testing.T) {
	for what, m := range all() {
		want, e := wantRefer(m, target, full)
		if e != api.OK {
			continue
		}
		first, _ := class.Refer(m, target, full)
		second, _ := class.Refer(m, target, full)
		kept := copyOf(second)
		spoil(first)
		if !same(second, kept) || !same(second, want) {
			t.Errorf("R4: %s: changed with another answer: %s", what, tell(second))
		}
		refers(t, what+", behind a change", m, want)
		spoil(second)
		refers(t, what+", behind two", m, want)
	}
}

// What a task or a question lacks is one error, in twos and threes too, with nothing beside it.
func TestFaultsTogether(t *testing.T) {
	faults := []func(x *api.Task, s *api.Step){
		func(x *api.Task, _ *api.Step) { x.Name = "" },
		func(x *api.Task, _ *api.Step) { x.Name = "no name" },
		func(x *api.Task, _ *api.Step) { x.Cut = "" },
		func(x *api.Task, _ *api.Step) { x.Cut = named("a") + root },
		func(x *api.Task, _ *api.Step) { x.Cut = named("else") },
		func(x *api.Task, _ *api.Step) { x.Cut = named("a.www.zone.example") },
		func(_ *api.Task, s *api.Step) { s.Name = "" },
		func(_ *api.Task, s *api.Step) { s.Name = "\x01a" },
		func(_ *api.Task, s *api.Step) { s.Name = root },
		func(_ *api.Task, s *api.Step) { s.Name = named("else") },
		func(_ *api.Task, s *api.Step) { s.Name = named("a.www.zone.example") },
	}
	for what, m := range all() {
		for _, f := range faults {
			for _, g := range faults {
				for _, h := range faults {
					x, s := target, full
					f(&x, &s)
					g(&x, &s)
					h(&x, &s)
					// Two of these may mend each other.
					if kind := check(t, m, x, s); kind != 0 {
						continue
					}
					refersNot(t, what, m, x, s)
				}
			}
		}
	}
}

// What is told hangs on nothing that was told, or refused, before.
func TestNothingIsKept(t *testing.T) {
	for range 3 {
		for what, m := range all() {
			for _, s := range []api.Step{full, short, typed, atCut} {
				check(t, m, target, s)
				refuses(t, what, m, api.Task{}, s)
				check(t, cut(m), target, s)
				check(t, m, target, s)
			}
		}
	}
}

func TestSeveralGoroutines(t *testing.T) {
	shared := all()
	var together sync.WaitGroup
	for g := range 8 {
		together.Go(func() {
			r := rand.New(rand.NewSource(int64(g)))
			for range 100 {
				m, x, s := some(r)
				if !agrees(t, m, x, s) {
					return
				}
				for _, m := range shared {
					if !agrees(t, m, target, full) {
						return
					}
				}
			}
		})
	}
	together.Wait()
}

// agrees is check, for goroutines.
func agrees(t *testing.T, m api.Msg, x api.Task, s api.Step) bool {
	kind, e := class.Of(m, x, s)
	d, f := class.Refer(m, x, s)
	wantKind, wantE := wantOf(m, x, s)
	want, wantF := wantRefer(m, x, s)
	if kind != wantKind || e != wantE || !same(d, want) || f != wantF {
		t.Errorf("R5: %s, %s, %s: %d, %d, %s, %d", tell(m), tell(x), tell(s), kind, e, tell(d), f)
		return false
	}
	return true
}
