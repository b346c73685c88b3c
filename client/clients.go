package client

import (
	"cmp"
	"slices"

	"rostrum/api"
)

// admit somebody who would be a client; if need be, another one goes.
func admit(m *api.Machine) api.Reply {
	if m.Next > api.MaxNumber {
		return api.Reply{Code: api.ErrFull}
	}
	if len(m.Clients) >= api.MaxClients {
		m.Clients = withoutOldest(m.Clients)
	}
	id := m.Next
	m.Clients = append(m.Clients, api.Client{Id: id, Time: m.Store.Now})
	m.Next++
	return api.Reply{N: id}
}

// find the place of a client; -1, if it is not there.
func find(l []api.Client, id int) int {
	return slices.IndexFunc(l, func(x api.Client) bool { return x.Id == id })
}

// withoutOldest: clients without the first one of those with the least time. There is one, and the list may be changed.
func withoutOldest(l []api.Client) []api.Client {
	oldest := slices.MinFunc(l, func(a, b api.Client) int { return cmp.Compare(a.Time, b.Time) })
	at := find(l, oldest.Id)
	return slices.Delete(l, at, at+1)
}
