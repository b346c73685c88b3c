package tape

import (
	"rostrum/api"
	"rostrum/bounds"
	"rostrum/client"
	"rostrum/wire"
)

// CheckSnap: may it be?
func CheckSnap(s api.Snap) api.Errno {
	if !bounds.IsNumber(s.Index) || !bounds.IsNumber(s.Term) {
		return api.ErrRange
	}
	return client.Check(s.Machine)
}

// Check a record.
func Check(r api.Record) api.Errno {
	switch {
	case r.Kind < api.Mark || r.Kind > api.Load:
		return api.ErrKind
	case !isEmpty(withoutOwn(r)):
		return api.ErrForm
	case r.Kind == api.Mark:
		return checkMark(r)
	case r.Kind == api.Line:
		return checkLine(r)
	}
	return CheckSnap(r.Snap)
}

func checkMark(r api.Record) api.Errno {
	if !bounds.IsNumber(r.Term) || r.For < -1 || r.For > api.Nodes-1 {
		return api.ErrRange
	}
	return api.OK
}

func checkLine(r api.Record) api.Errno {
	if !bounds.IsNumber(r.Index) {
		return api.ErrRange
	}
	return wire.CheckItem(r.Item)
}

// checkTape: may it be?
func checkTape(t api.Tape) api.Errno {
	if len(t.Data) > api.MaxTape || t.Synced < 0 || t.Synced > len(t.Data) {
		return api.ErrState
	}
	return api.OK
}

// withoutOwn: what a record has beside what its kind has.
func withoutOwn(r api.Record) api.Record {
	switch r.Kind {
	case api.Mark:
		r.Term, r.For = 0, 0
	case api.Line:
		r.Index, r.Item = 0, api.Item{}
	case api.Load:
		r.Snap = api.Snap{}
	}
	return r
}

// isEmpty: has a record nothing, whatever its kind?
func isEmpty(r api.Record) bool {
	m := r.Snap.Machine
	return r.Term == 0 && r.For == 0 && r.Index == 0 && r.Item == api.Item{} &&
		r.Snap.Index == 0 && r.Snap.Term == 0 &&
		m.Store.Now == 0 && len(m.Store.Entries) == 0 && m.Next == 0 && len(m.Clients) == 0
}
