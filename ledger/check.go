package ledger

import (
	"rostrum/api"
	"rostrum/bounds"
	"rostrum/wire"
)

// Check a log.
func Check(l api.Log) api.Errno {
	if !baseMayBe(l) || len(l.Items) > api.MaxLog || lastPlace(l) > api.MaxNumber || !itemsMayBe(l) {
		return api.ErrState
	}
	return api.OK
}

// baseMayBe: where there never was an item, there was no term, and nowhere else.
func baseMayBe(l api.Log) bool {
	if l.Base == 0 {
		return l.BaseTerm == 0
	}
	return bounds.IsNumber(l.Base) && bounds.IsNumber(l.BaseTerm)
}

func itemsMayBe(l api.Log) bool {
	term, time := l.BaseTerm, 0
	for _, x := range l.Items {
		if wire.CheckItem(x) != api.OK || x.Term < term || x.Time < time {
			return false
		}
		term, time = x.Term, x.Time
	}
	return true
}

// checkPlace: may it be a place, and does the log tell its term?
func checkPlace(l api.Log, place int) api.Errno {
	if place < 0 || place > api.MaxNumber {
		return api.ErrRange
	}
	return held(l, place)
}

// held: does the log tell the term of a place?
func held(l api.Log, place int) api.Errno {
	switch {
	case place < l.Base:
		return api.ErrGone
	case place > lastPlace(l):
		return api.ErrNone
	}
	return api.OK
}
