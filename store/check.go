package store

import (
	"slices"

	"rostrum/api"
	"rostrum/bounds"
	"rostrum/value"
)

// Check a store.
func Check(s api.Store) api.Errno {
	wrong := func(x api.Entry) bool { return !entryMayBe(x, s.Now) }
	if !bounds.IsTime(s.Now) || len(s.Entries) > api.MaxKeys ||
		slices.ContainsFunc(s.Entries, wrong) || !keysRise(s.Entries) {
		return api.ErrState
	}
	return api.OK
}

func entryMayBe(x api.Entry, now int) bool {
	return bounds.IsKey(x.Key) && value.Check(x.Value) == api.OK &&
		(x.Until == 0 || x.Until > now && x.Until <= api.MaxTime)
}

func keysRise(l []api.Entry) bool {
	for i := 1; i < len(l); i++ {
		if l[i-1].Key >= l[i].Key {
			return false
		}
	}
	return true
}
