package ledger

import (
	"rostrum/api"
	"rostrum/fresh"
)

func lastPlace(l api.Log) int { return l.Base + len(l.Items) }

// termAt a place whose term the log tells.
func termAt(l api.Log, place int) int {
	if place == l.Base {
		return l.BaseTerm
	}
	return l.Items[place-l.Base-1].Term
}

// firstBehind a place whose term the log tells: at most so many items, in memory of their own.
func firstBehind(l api.Log, place, most int) []api.Item {
	rest := l.Items[place-l.Base:]
	return fresh.List(rest[:min(most, len(rest))])
}
