package class

import (
	"slices"

	"wimple/api"
	"wimple/name"
	"wimple/rdata"
	"wimple/rel"
)

// Refer gives what the reply m, if it is a referral, says of the cut to which it sends on.
func Refer(m api.Msg, t api.Task, s api.Step) (api.Delegation, api.Errno) {
	// Beside an error the class is another one.
	if class, _ := Of(m, t, s); class != api.ClassRefer {
		return api.Delegation{}, api.ErrClassForm
	}
	servers := ofType(m.Ns, api.TypeNs)
	cut := rel.Fold(servers[0].Name)
	servers = slices.DeleteFunc(servers, isNameless)
	hosts := hostsOf(servers)
	return api.Delegation{Cut: cut, Hosts: hosts, Glue: glueOf(m.Ar, hosts), Ttl: leastTtl(servers)}, api.OK
}

// isNameless says whether a TypeNs tells no host.
func isNameless(x api.Rr) bool {
	return !name.May(x.Data)
}

// hostsOf gives the hosts, folded, that the records tell, of many the first ones.
func hostsOf(servers []api.Rr) []string {
	var out []string
	for _, x := range servers {
		out = append(out, rel.Fold(x.Data))
	}
	slices.SortFunc(out, rel.Compare)
	out = slices.Compact(out)
	return out[:min(len(out), api.MaxAddrs)]
}

// leastTtl gives how long all of the records last, at most MaxTtl.
func leastTtl(servers []api.Rr) int {
	least := api.MaxTtl
	for _, x := range servers {
		least = min(least, x.Ttl)
	}
	return least
}

// glueOf gives the addresses that the records tell of the hosts, which are folded, each once; of many the first ones.
func glueOf(ar []api.Rr, hosts []string) []api.Binding {
	var out []api.Binding
	for _, x := range ofType(ar, api.TypeA) {
		addr, e := rdata.Addr(x.Data)
		// What is no name folds to nothing, which is no host.
		host := rel.Fold(x.Name)
		if e != api.OK || !slices.Contains(hosts, host) || isBound(out, host, addr) {
			continue
		}
		out = append(out, api.Binding{Host: host, Addr: addr, Until: min(x.Ttl, api.MaxTtl)})
		if len(out) == api.MaxAddrs {
			break
		}
	}
	return out
}

// isBound says whether one of the bindings is of the host and the address.
func isBound(bs []api.Binding, host string, addr int) bool {
	return slices.ContainsFunc(bs, func(b api.Binding) bool {
		return b.Host == host && b.Addr == addr
	})
}
