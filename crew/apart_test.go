package crew_test

import (
	"slices"
	"testing"

	"rostrum/api"
	"rostrum/crew"
)

// someScripts: of many kinds, and some that may not be.
func someScripts() [][]api.Act {
	l := [][]api.Act{
		nil, {}, led, withClient,
		join(led, acts("trim 0; trim 1; work 0; sync 0; crash 0 0; stand 1; rounds 7; start 0; rounds 3")),
		join(withClient, manyAdds(1, 20), acts("trim 0; crash 2 0; start 2; rounds 9; crash 2 9; crash 0 0")),
		{{}}, join(withClient, []api.Act{{}}), make([]api.Act, api.MaxActs+1),
	}
	for seed := range 12 {
		d := &drawer{die: die(9000 + seed)}
		l = append(l, d.script(withClient, 80, 600, []func() []api.Act{d.calm, d.wild, d.late}[seed%3]))
	}
	c := api.Command{Kind: api.All, Key: "l"}
	lists := join(withClient, ask(0, call(1, 1, api.Command{Kind: api.Push, Key: "l", Text: "a"})), ask(0, call(1, 2, c)), ask(0, call(1, 2, c)), ask(0, call(1, 3, c)), rounds(4))
	return append(l, lists, join(lists, acts("crash 2 0; start 2; trim 0; trim 1"), ask(0, call(1, 3, c)), rounds(9)))
}

// Acts that are handed in are not changed, the room behind them neither; no two lists of the answers share memory.
func TestAnswersAreApart(t *testing.T) {
	for i, l := range someScripts() {
		in := append(slices.Grow(slices.Clone(l), 2), ask(2, put(7, 7, "spare"))...)[:len(l)]
		before := whole(in)
		a, _ := crew.Run(in)
		b, _ := crew.Run(in)
		if whole(in) != before {
			t.Errorf("script %d is changed", i)
		}
		if shares(in, a, b) {
			t.Errorf("script %d: lists of the answers share memory", i)
		}
		if !same(a, b) {
			t.Errorf("script %d: %+v, and then %+v", i, a, b)
		}
	}
}
