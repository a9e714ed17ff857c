package cuts

import (
	"slices"

	"wimple/api"
	"wimple/rel"
)

// maxLive is how many live bindings keep a cut from learning another one.
const maxLive = 2 * api.MaxAddrs

// server tells the bindings of a cut apart: a host, by its place among the cut's hosts, and an address.
type server struct {
	host int
	addr int
}

// binding is what a cut holds of an api.Binding: the rest is the same for all of its bindings.
type binding struct {
	server
	until int
}

// cut is one that was told of: its hosts, folded, the cut whose server told it, and its bindings.
type cut struct {
	hosts []string
	from  string
	until int
	row   row
}

// newCut gives the cut that d, which may be put, tells of at now.
func newCut(d api.Delegation, from string, now int) *cut {
	x := &cut{from: rel.Fold(from), until: now + lasting(d.Ttl)}
	for _, h := range d.Hosts {
		x.hosts = append(x.hosts, rel.Fold(h))
	}
	for _, g := range d.Glue {
		own := server{host: slices.Index(x.hosts, rel.Fold(g.Host)), addr: g.Addr}
		// All glue is live at now, so that of two of one server the first is learned.
		x.learn(binding{server: own, until: now + lasting(g.Until)}, now)
	}
	return x
}

// lasting gives how many ticks something may last that was said to last so many.
func lasting(ticks int) int {
	return min(max(ticks, 1), api.MaxTtl)
}

// learn lays b behind the bindings of x, unless they tell it already or too many are live at now.
func (x *cut) learn(b binding, now int) {
	count := 0
	for old := range x.row.live(now) {
		count++
		if old.server == b.server || count == maxLive {
			return
		}
	}
	x.row.add(b)
}

// bindings gives those of x that are live at now, in their row; their names are those that x holds, and cut.
func (x *cut) bindings(cut string, now int) []api.Binding {
	var out []api.Binding
	for b := range x.row.live(now) {
		out = append(out, api.Binding{Cut: cut, Host: x.hosts[b.host], Addr: b.addr, From: x.from, Until: b.until})
	}
	return out
}
