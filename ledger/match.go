package ledger

import (
	"slices"

	"rostrum/api"
	"rostrum/fresh"
)

// Match items that stand behind a place of a term: whether they fit; the log, and from which place on something is new (0: nothing is).
func Match(l api.Log, place, of int, items []api.Item) (out api.Log, fits bool, fresh int, e api.Errno) {
	if e := Check(l); e != api.OK {
		return api.Log{}, false, 0, e
	}
	if Check(api.Log{Base: place, BaseTerm: of, Items: items}) != api.OK {
		return api.Log{}, false, 0, api.ErrOrder
	}
	if !fit(l, place, of) {
		return own(l), false, 0, api.OK
	}
	first := firstFresh(l, place, items)
	if first == 0 {
		return own(l), true, 0, api.OK
	}
	out = laid(l, first, items[first-place-1:])
	if Check(out) != api.OK {
		return api.Log{}, false, 0, api.ErrFull
	}
	return out, true, first, api.OK
}

// fit: what is below Base is right, whatever its term was: it would not be gone else.
func fit(l api.Log, place, of int) bool {
	switch held(l, place) {
	case api.ErrGone:
		return true
	case api.OK:
		return termAt(l, place) == of
	}
	return false
}

// firstFresh: the place of the first of the items, behind a place, that the log has not; 0, if it has them all.
func firstFresh(l api.Log, place int, items []api.Item) int {
	for i, x := range items {
		at := place + 1 + i
		if at > lastPlace(l) || at > l.Base && termAt(l, at) != x.Term {
			return at
		}
	}
	return 0
}

// laid: the log up to a place, and items from there on.
func laid(l api.Log, place int, items []api.Item) api.Log {
	l.Items = slices.Concat(l.Items[:place-l.Base-1], items)
	return l
}

// own: the log as it was, in memory of its own.
func own(l api.Log) api.Log {
	l.Items = fresh.List(l.Items)
	return l
}
