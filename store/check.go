package store

import (
	"slices"

	"rostrum/api"
	"rostrum/value"
)

// Check a store.
func Check(s api.Store) api.Errno {
	wrong := func(x api.Entry) bool { return !entryMayBe(x, s.Now) }
	if !isTime(s.Now) || len(s.Entries) > api.MaxKeys ||
		slices.ContainsFunc(s.Entries, wrong) || !keysRise(s.Entries) {
		return api.ErrState
	}
	return api.OK
}

func isTime(n int) bool { return n >= 0 && n <= api.MaxTime }

func isKey(s string) bool { return len(s) >= 1 && len(s) <= api.MaxKey }

func entryMayBe(x api.Entry, now int) bool {
	return isKey(x.Key) && value.Check(x.Value) == api.OK &&
		(x.Until == 0 || x.Until > now && x.Until <= api.MaxTime)
}

func keysRise(l []api.Entry) bool {
	for i := 1; i < len(l); i++ {
		if l[i-1].Key >= l[i].Key {
			return false
		}
	}
	return true
}
