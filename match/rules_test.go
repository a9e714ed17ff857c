package match_test

import (
	"math/rand"
	"strings"
	"sync"
	"testing"
	"unsafe"

	"wimple/api"
	"wimple/match"
)

// lent gives s in memory that may be written over.
func lent(s string) ([]byte, string) {
	b := []byte(s)
	return b, unsafe.String(unsafe.SliceData(b), len(b))
}

// textsOf gives all names and data of m.
func textsOf(m api.Msg) []string {
	var out []string
	for _, q := range m.Qs {
		out = append(out, q.Name)
	}
	for _, part := range [][]api.Rr{m.An, m.Ns, m.Ar} {
		for _, x := range part {
			out = append(out, x.Name, x.Data)
		}
	}
	return out
}

// copyOf gives m in memory of its own.
func copyOf(m api.Msg) api.Msg {
	out := api.Msg{Head: m.Head}
	for _, q := range m.Qs {
		q.Name = strings.Clone(q.Name)
		out.Qs = append(out.Qs, q)
	}
	for i, part := range [][]api.Rr{m.An, m.Ns, m.Ar} {
		to := []*[]api.Rr{&out.An, &out.Ns, &out.Ar}[i]
		for _, x := range part {
			x.Name, x.Data = strings.Clone(x.Name), strings.Clone(x.Data)
			*to = append(*to, x)
		}
	}
	return out
}

// The bytes are not written to, whether they are a reply or not.
func TestBytesAreNotWrittenTo(t *testing.T) {
	for what, m := range replies() {
		s := put(t, m)
		for _, was := range []string{s, s + "x", s[:len(s)-1], s[:5], "\x00\x00\x00\x00" + s[4:]} {
			b, own := lent(was)
			for range 3 {
				match.Reply(own)
			}
			if string(b) != was {
				t.Errorf("R4: %s: %s was changed to %s", what, tell(was), tell(b))
			}
		}
	}
}

// A reply is in memory of its own: what becomes of the bytes doesn't reach it.
func TestWritingOverTheBytes(t *testing.T) {
	for what, m := range replies() {
		b, own := lent(put(t, m))
		got, e := match.Reply(own)
		clear(b)
		if !same(got, m) || e != api.OK {
			t.Errorf("R4: %s: writing over the bytes: %s, %d", what, tell(got), e)
		}
	}
}

// No two replies lie in one place. (Texts of one byte, which Go lays down once, are let be: no one can write to them.)
func TestRepliesOfTheirOwn(t *testing.T) {
	for what, m := range replies() {
		_, own := lent(put(t, m))
		seen, texts := map[*byte]bool{}, 0
		for range 3 {
			got, _ := match.Reply(own)
			for _, s := range textsOf(got) {
				if len(s) < 2 {
					continue
				}
				seen[unsafe.StringData(s)] = true
				texts++
			}
		}
		if len(seen) != texts {
			t.Errorf("R4: %s: %d texts lie in %d places", what, texts, len(seen))
		}
	}
}

// spoil writes over all that m holds, and over the room behind its lists.
func spoil(m api.Msg) {
	for i := range m.Qs[:cap(m.Qs)] {
		m.Qs[:cap(m.Qs)][i] = api.Question{Name: "spoilt", Type: -1, Class: -1}
	}
	for _, part := range [][]api.Rr{m.An, m.Ns, m.Ar} {
		for i := range part[:cap(part)] {
			part[:cap(part)][i] = api.Rr{Name: "spoilt", Type: -1, Class: -1, Ttl: -1, Data: "spoilt"}
		}
	}
}

// What is handed out and afterwards changed turns nothing of what was handed out, or is handed out later.
func TestChangesTurnNothing(t *testing.T) {
	for what, m := range replies() {
		s := put(t, m)
		first, _ := match.Reply(s)
		second, _ := match.Reply(s)
		kept := copyOf(second)
		spoil(first)
		if !same(second, kept) {
			t.Errorf("R4: %s: changed with another reply: %s", what, tell(second))
		}
		takes(t, what+", behind a change", s, m)
		spoil(second)
		takes(t, what+", behind two", s, m)
	}
}

// The lists of one reply share no room.
func TestListsShareNothing(t *testing.T) {
	s := bytesOf(0x8000, [4]int{1, 3, 3, 3}, question(root, 1, 1)+strings.Repeat(rr(named("a"), 99, 1, "abcd"), 9))
	for part := range 3 {
		m, e := match.Reply(s)
		if e != api.OK {
			t.Fatalf("P20.1: %d", e)
		}
		was := copyOf(m)
		lists := [][]api.Rr{m.An, m.Ns, m.Ar}
		for i := range lists[part][:cap(lists[part])] {
			lists[part][:cap(lists[part])][i] = api.Rr{Ttl: -1}
		}
		for i, want := range [][]api.Rr{was.An, was.Ns, was.Ar} {
			if i != part && !same(api.Msg{An: lists[i]}, api.Msg{An: want}) {
				t.Errorf("R4: part %d shares room with part %d: %s", part+1, i+1, tell(lists[i]))
			}
		}
	}
}

// What is told hangs on nothing that was told, or refused, before.
func TestNothingIsKept(t *testing.T) {
	for range 3 {
		for what, m := range replies() {
			s := put(t, m)
			takes(t, what, s, m)
			refuses(t, what+", and a byte", s+"x")
			takes(t, what+", behind a refusal", s, m)
			refuses(t, "nothing", "")
		}
	}
}

func TestSeveralGoroutines(t *testing.T) {
	var all []string
	for _, m := range replies() {
		all = append(all, put(t, m))
	}
	var together sync.WaitGroup
	for g := range 8 {
		together.Go(func() {
			r := rand.New(rand.NewSource(int64(g)))
			for range 4000 {
				s := some(r, all)
				m, e := match.Reply(s)
				if want, f := wantReply(s); !same(m, want) || e != f {
					t.Errorf("R5: %s: %s, %d", tell(s), tell(m), e)
					return
				}
			}
		})
	}
	together.Wait()
}
