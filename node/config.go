package node

import (
	"tally/api"
	"tally/text"
)

// mayBe tells whether a configuration may be.
func mayBe(c api.Config) bool {
	for _, n := range [...]struct{ has, least, most int }{
		{c.Nodes, 1, api.MaxNodes},
		{c.Shards, 1, api.MaxShards},
		{c.Copies, 1, min(api.MaxCopies, c.Nodes)},
		{c.Clients, 1, api.MaxClients},
		{c.Queue, 1, api.MaxQueue},
		{c.Cap, 1, api.MaxCap},
		{c.Flight, 1, api.MaxFlight},
		{c.Patience, api.FirstPatience, api.MaxPatience},
		{len(c.Accounts), 0, api.MaxAccounts},
	} {
		if n.has < n.least || n.has > n.most {
			return false
		}
	}
	return c.Copies%2 == 1 && accountsMayBe(c.Accounts)
}

func accountsMayBe(l []api.Account) bool {
	names := map[string]struct{}{}
	left := uint64(api.MaxSupply)
	for _, a := range l {
		name := text.Fold(a.Name)
		if _, twice := names[name]; twice || text.Check(a.Name) != api.OK || a.Balance > left {
			return false
		}
		names[name] = struct{}{}
		left -= a.Balance
	}
	return true
}
