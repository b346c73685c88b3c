package client

import (
	"slices"

	"rostrum/api"
	"rostrum/bounds"
	"rostrum/store"
	"rostrum/value"
)

// CheckReply: may it be?
func CheckReply(r api.Reply) api.Errno {
	wrong := func(s string) bool { return !bounds.IsText(s) }
	switch {
	case r.Code < api.OK || r.Code > api.ErrState:
		return api.ErrKind
	case wrong(r.Text) || len(r.List) > api.MaxItems || slices.ContainsFunc(r.List, wrong):
		return api.ErrSize
	case !bounds.IsCount(r.N):
		return api.ErrRange
	}
	return api.OK
}

// CheckCall: may it be?
func CheckCall(c api.Call) api.Errno {
	switch {
	case c == api.Call{}:
		return api.OK
	case c.Client == 0:
		return api.ErrForm
	case !bounds.IsNumber(c.Client) || !bounds.IsNumber(c.Seq):
		return api.ErrRange
	}
	return value.CheckCommand(c.Command)
}

// Check a machine.
func Check(m api.Machine) api.Errno {
	wrong := func(x api.Client) bool { return !clientMayBe(x, m) }
	if store.Check(m.Store) != api.OK || m.Next < 1 || m.Next > api.MaxNumber+1 ||
		len(m.Clients) > api.MaxClients || slices.ContainsFunc(m.Clients, wrong) || !idsRise(m.Clients) {
		return api.ErrState
	}
	return api.OK
}

// clientMayBe, whatever others there are.
func clientMayBe(x api.Client, m api.Machine) bool {
	return x.Id >= 1 && x.Id < m.Next &&
		x.Seq >= 0 && x.Seq <= api.MaxNumber &&
		x.Time >= 0 && x.Time <= m.Store.Now &&
		CheckReply(x.Reply) == api.OK
}

func idsRise(l []api.Client) bool {
	for i := 1; i < len(l); i++ {
		if l[i-1].Id >= l[i].Id {
			return false
		}
	}
	return true
}
