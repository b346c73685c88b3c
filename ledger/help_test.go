package ledger_test

import (
	"math"
	"strings"

	"rostrum/api"
)

const top = api.MaxNumber

func nop(term, time int) api.Item { return api.Item{Term: term, Time: time, Nop: true} }

func put(term, time int, text string) api.Item {
	return api.Item{Term: term, Time: time, Call: api.Call{Client: 1, Seq: 1, Command: api.Command{Kind: api.Put, Key: "k", Text: text}}}
}

// nops of these terms, all at the time 0.
func nops(terms ...int) []api.Item {
	var l []api.Item
	for _, t := range terms {
		l = append(l, nop(t, 0))
	}
	return l
}

// many Nops of a term.
func many(n, term int) []api.Item {
	var l []api.Item
	for range n {
		l = append(l, nop(term, 0))
	}
	return l
}

func log(base, term int, items ...api.Item) api.Log {
	return api.Log{Base: base, BaseTerm: term, Items: items}
}

// join lists to a new one.
func join(lists ...[]api.Item) []api.Item {
	var all []api.Item
	for _, l := range lists {
		all = append(all, l...)
	}
	return all
}

func sameItems(a, b []api.Item) bool {
	if len(a) != len(b) {
		return false
	}
	for i := range a {
		if a[i] != b[i] {
			return false
		}
	}
	return true
}

func same(a, b api.Log) bool {
	return a.Base == b.Base && a.BaseTerm == b.BaseTerm && sameItems(a.Items, b.Items)
}

func empty(l api.Log) bool { return same(l, api.Log{}) }

// goodItems: one of each kind that may be.
func goodItems() []api.Item {
	return []api.Item{
		nop(1, 0), put(1, 0, ""), {Term: 1}, put(1, 5, "x"), nop(2, 5), put(2, 5, strings.Repeat("q", api.MaxText)),
		nop(top, api.MaxTime), {Term: top, Time: api.MaxTime},
	}
}

// badItems: some that may not be.
func badItems() []api.Item {
	l := []api.Item{
		{}, {Nop: true}, nop(0, 5), nop(-1, 5), nop(top+1, 5), nop(math.MinInt, 5), nop(math.MaxInt, 5),
		nop(3, -1), nop(3, api.MaxTime+1), nop(3, math.MinInt), nop(3, math.MaxInt),
		put(0, 5, "x"), put(3, -1, "x"), put(3, 5, strings.Repeat("q", api.MaxText+1)),
		{Term: 3, Time: 5, Nop: true, Call: api.Call{Client: 1, Seq: 1, Command: api.Command{Kind: api.Keys}}},
		{Term: 3, Time: 5, Call: api.Call{Seq: 1}},
	}
	for _, c := range []api.Call{
		{Client: -1, Seq: 1, Command: api.Command{Kind: api.Keys}}, {Client: 1, Command: api.Command{Kind: api.Keys}},
		{Client: 1, Seq: 1}, {Client: 1, Seq: 1, Command: api.Command{Kind: api.Get}}, {Client: 1, Seq: 1, Command: api.Command{Kind: api.Keys, Key: "k"}},
	} {
		l = append(l, api.Item{Term: 3, Time: 5, Call: c})
	}
	return l
}

// goodLogs: some that may be, at the bounds too.
func goodLogs() []api.Log {
	return []api.Log{
		{}, log(0, 0, nop(1, 0)), log(0, 0, goodItems()...), log(0, 0, nop(7, 3), nop(7, 3), nop(9, 4)),
		log(1, 1), log(3, 2), log(3, 2, nop(2, 0)), log(3, 2, nop(5, 9), put(5, 9, "a"), nop(8, 11)), log(1, 1, goodItems()...),
		log(1, top), log(1, top, nop(top, 0)), log(top, 1), log(top, top), log(top-1, 1, nop(1, 0)), log(top-2, 1, nops(1, 4)...),
		log(0, 0, many(api.MaxLog, 1)...), log(0, 0, many(api.MaxLog-1, 1)...), log(9, 2, many(api.MaxLog, 3)...),
		log(top-api.MaxLog, 3, many(api.MaxLog, 3)...),
	}
}

// badLogs: some that may not be.
func badLogs() []api.Log {
	l := []api.Log{
		log(0, 1), log(1, 0), log(0, 1, nop(1, 0)), log(1, 0, nop(1, 0)), log(top, 0), log(0, top),
		log(-1, 1), log(1, -1), log(-1, 0), log(0, -1), log(-1, -1), log(top+1, 1), log(1, top+1), log(top+1, top+1), log(top+1, 0), log(0, top+1),
		log(math.MinInt, 1), log(1, math.MinInt), log(math.MaxInt, 1), log(1, math.MaxInt), log(math.MaxInt, 1, nop(1, 0)), log(math.MinInt, 1, nops(1, 1)...),
		log(1, top+1, nop(top+1, 0)), log(-1, 1, nop(1, 0)),
		log(0, 0, many(api.MaxLog+1, 1)...), log(9, 2, many(api.MaxLog+1, 3)...), log(0, 0, many(2*api.MaxLog, 1)...),
		log(top, 1, nop(1, 0)), log(top-1, 1, nops(1, 1)...), log(top-api.MaxLog+1, 3, many(api.MaxLog, 3)...),
		log(3, 2, nop(1, 0)), log(3, top, nop(top-1, 0)), log(3, 2, nops(1, 2)...), log(3, 5, nops(5, 6, 4)...),
		log(0, 0, nops(2, 1)...), log(0, 0, nops(2, 2, 1)...), log(0, 0, nops(1, 3, 2, 3)...), log(0, 0, nops(1, 3, 2)...), log(3, 1, nops(3, 2)...),
		log(0, 0, nop(1, 1), nop(1, 0)), log(0, 0, nop(1, 1), nop(2, 0)), log(0, 0, nop(1, 0), nop(1, 5), nop(1, 4), nop(1, 5)), log(3, 2, nop(2, api.MaxTime), nop(2, 0)),
		log(0, 0, join(many(api.MaxLog-1, 2), nops(1))...),
	}
	for _, x := range badItems() {
		l = append(l, log(0, 0, x), log(0, 0, nop(3, 5), x), log(2, 3, x, nop(3, 5)), log(0, 0, nop(3, 5), x, nop(3, 5)))
	}
	return l
}

// die: numbers that look drawn, the same each time.
type die uint64

func (d *die) n(most int) int {
	*d = *d*6364136223846793005 + 1442695040888963407
	return int(uint64(*d>>33) % uint64(most))
}
