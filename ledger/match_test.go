package ledger_test

import (
	"math"
	"testing"

	"rostrum/api"
	"rostrum/ledger"
)

type matchCase struct {
	l         api.Log
	place, of int
	items     []api.Item
	out       api.Log
	fits      bool
	first     int
}

func matched(t *testing.T, l []matchCase) {
	t.Helper()
	for i, c := range l {
		out, fits, first, e := ledger.Match(c.l, c.place, c.of, c.items)
		if e != api.OK || !same(out, c.out) || fits != c.fits || first != c.first {
			t.Errorf("case %d: %v %v %d %d, want %v %v %d", i, out, fits, first, int(e), c.out, c.fits, c.first)
		}
		if e := ledger.Check(out); e != api.OK {
			t.Errorf("case %d: %v may not be", i, out)
		}
	}
}

func unmatched(t *testing.T, l api.Log, place, of int, items []api.Item, want api.Errno) {
	t.Helper()
	if out, fits, first, e := ledger.Match(l, place, of, items); e != want || !empty(out) || fits || first != 0 {
		t.Errorf("%v behind %d of %d: %v %v %d %d, want %d", items, place, of, out, fits, first, int(e), int(want))
	}
}

var (
	a, b, c  = put(1, 0, "a"), put(1, 3, "b"), nop(4, 3)
	d        = put(4, 5, "d")
	abc      = log(0, 0, a, b, c)
	far      = log(7, 1, a, b, c) // the same items, at 8, 9 and 10
	somewhat = []api.Item{nop(4, 3), nop(5, 5)}
)

// P5.6: they don't fit: another term at the place, or no item there. The log is as it was.
func TestItemsThatDoNotFit(t *testing.T) {
	for _, items := range [][]api.Item{nil, {}, somewhat} {
		for _, l := range []api.Log{abc, far} {
			at := l.Base
			matched(t, []matchCase{
				{l, at + 1, 2, items, l, false, 0}, {l, at + 2, 2, items, l, false, 0}, {l, at + 3, 1, items, l, false, 0}, {l, at + 3, 3, items, l, false, 0},
				{l, at + 4, 4, items, l, false, 0}, {l, at + 4, 1, items, l, false, 0}, {l, at + 50, 4, items, l, false, 0}, {l, top - 2, 4, items, l, false, 0},
			})
		}
		matched(t, []matchCase{
			{far, 7, 2, items, far, false, 0}, {log(7, 3), 7, 2, items, log(7, 3), false, 0}, {log(7, 3), 8, 3, items, log(7, 3), false, 0},
			{api.Log{}, 1, 1, items, api.Log{}, false, 0}, {api.Log{}, 5, 4, items, api.Log{}, false, 0},
		})
	}
	matched(t, []matchCase{{api.Log{}, top, top, nil, api.Log{}, false, 0}, {abc, top - 1, 1, nops(1), abc, false, 0}})
}

// P5.6: no items at all: whether they fit hangs on the place alone.
func TestNoItems(t *testing.T) {
	for _, none := range [][]api.Item{nil, {}} {
		matched(t, []matchCase{
			{api.Log{}, 0, 0, none, api.Log{}, true, 0}, {abc, 0, 0, none, abc, true, 0}, {abc, 1, 1, none, abc, true, 0}, {abc, 2, 1, none, abc, true, 0}, {abc, 3, 4, none, abc, true, 0},
			{far, 0, 0, none, far, true, 0}, {far, 1, 9, none, far, true, 0}, {far, 6, top, none, far, true, 0}, {far, 7, 1, none, far, true, 0}, {far, 10, 4, none, far, true, 0},
			{log(7, 3), 7, 3, none, log(7, 3), true, 0}, {log(7, 3), 6, 4, none, log(7, 3), true, 0}, {log(top, 3), top, 3, none, log(top, 3), true, 0},
		})
	}
}

// P5.6: items that are there already: what stands behind them stays.
func TestItemsThatAreThere(t *testing.T) {
	matched(t, []matchCase{
		{abc, 0, 0, []api.Item{a}, abc, true, 0}, {abc, 0, 0, []api.Item{a, b}, abc, true, 0}, {abc, 0, 0, []api.Item{a, b, c}, abc, true, 0},
		{abc, 1, 1, []api.Item{b}, abc, true, 0}, {abc, 1, 1, []api.Item{b, c}, abc, true, 0}, {abc, 2, 1, []api.Item{c}, abc, true, 0},
		{far, 7, 1, []api.Item{a}, far, true, 0}, {far, 7, 1, []api.Item{a, b, c}, far, true, 0}, {far, 8, 1, []api.Item{b}, far, true, 0}, {far, 9, 1, []api.Item{c}, far, true, 0},
	})
	// It is the Term that tells them apart: what else they have is not looked at, and not taken.
	matched(t, []matchCase{
		{abc, 0, 0, []api.Item{nop(1, 9)}, abc, true, 0}, {abc, 0, 0, nops(1, 1, 4), abc, true, 0}, {abc, 1, 1, []api.Item{a, d}, abc, true, 0},
		{abc, 0, 0, []api.Item{nop(1, 1), nop(1, 1), nop(4, 1), d}, log(0, 0, a, b, c, d), true, 4},
	})
}

// P5.6: items up to Base are right as they are, whatever their terms.
func TestItemsUpToBase(t *testing.T) {
	matched(t, []matchCase{
		{far, 0, 0, nops(1, 1), far, true, 0}, {far, 0, 0, nops(9, 9, 9, 9, 9, 9, 9), far, true, 0}, {far, 2, 3, nops(3, 4, 5), far, true, 0}, {far, 6, 5, nops(5), far, true, 0}, {far, 6, 5, nops(top), far, true, 0},
		{far, 5, 1, []api.Item{nop(1, 0), nop(1, 0), a, b}, far, true, 0}, {far, 0, 0, join(nops(1, 1, 1, 1, 1, 1, 1), []api.Item{a, b, c}), far, true, 0},
		{far, 5, 1, []api.Item{nop(1, 0), nop(1, 0), a, b, c, d}, log(7, 1, a, b, c, d), true, 11},
		{far, 5, 1, nops(1, 1, 2), log(7, 1, nop(2, 0)), true, 8}, {far, 5, 1, nops(1, 1, 1, 2, 2, 2), log(7, 1, a, nop(2, 0), nop(2, 0), nop(2, 0)), true, 9},
		{far, 5, 2, nops(2, 2, 2), log(7, 1, nop(2, 0)), true, 8}, // what stood at Base is not held against BaseTerm
		{far, 6, 2, nops(2, 2, 3), log(7, 1, nops(2, 3)...), true, 8},
		{log(7, 3), 6, 1, nops(2, 3), log(7, 3, nop(3, 0)), true, 8}, {log(7, 3), 6, 1, nops(2), log(7, 3), true, 0}, {log(7, 3), 5, 9, nops(9, 9), log(7, 3), true, 0}, {log(7, 3), 3, 1, nops(2), log(7, 3), true, 0},
	})
}

// P5.6: another term in the midst of the log: what stood from there on goes.
func TestItemsInTheMidst(t *testing.T) {
	other := put(2, 3, "o")
	matched(t, []matchCase{
		{abc, 0, 0, []api.Item{other}, log(0, 0, other), true, 1}, {abc, 1, 1, []api.Item{other}, log(0, 0, a, other), true, 2}, {abc, 2, 1, []api.Item{other}, log(0, 0, a, b, other), true, 3},
		{abc, 0, 0, []api.Item{a, other}, log(0, 0, a, other), true, 2}, {abc, 0, 0, []api.Item{a, b, other}, log(0, 0, a, b, other), true, 3}, {abc, 0, 0, []api.Item{a, other, c, d}, log(0, 0, a, other, c, d), true, 2},
		{abc, 0, 0, []api.Item{a, b, other, d, d}, log(0, 0, a, b, other, d, d), true, 3}, {abc, 1, 1, []api.Item{b, nop(5, 3)}, log(0, 0, a, b, nop(5, 3)), true, 3},
		{far, 7, 1, []api.Item{other}, log(7, 1, other), true, 8}, {far, 8, 1, []api.Item{other}, log(7, 1, a, other), true, 9}, {far, 7, 1, []api.Item{a, other}, log(7, 1, a, other), true, 9},
		{far, 8, 1, []api.Item{b, nop(3, 3), nop(3, 3)}, log(7, 1, a, b, nop(3, 3), nop(3, 3)), true, 10},
		// Items that are the same behind the first fresh one are laid too.
		{log(0, 0, nops(1, 3, 4)...), 0, 0, []api.Item{nop(1, 0), nop(2, 0), nop(4, 1)}, log(0, 0, nop(1, 0), nop(2, 0), nop(4, 1)), true, 2},
		{log(0, 0, many(api.MaxLog, 3)...), 1, 3, nops(4), log(0, 0, nops(3, 4)...), true, 2},
		{log(0, 0, many(api.MaxLog, 3)...), api.MaxLog - 1, 3, nops(4), log(0, 0, join(many(api.MaxLog-1, 3), nops(4))...), true, api.MaxLog},
	})
}

// P5.6: items behind the last one.
func TestItemsBehindTheLast(t *testing.T) {
	matched(t, []matchCase{
		{api.Log{}, 0, 0, []api.Item{a}, log(0, 0, a), true, 1}, {api.Log{}, 0, 0, []api.Item{a, b, c}, abc, true, 1}, {log(7, 1), 7, 1, []api.Item{a, b, c}, far, true, 8},
		{abc, 3, 4, []api.Item{d}, log(0, 0, a, b, c, d), true, 4}, {abc, 2, 1, []api.Item{c, d}, log(0, 0, a, b, c, d), true, 4}, {abc, 0, 0, []api.Item{a, b, c, d, d}, log(0, 0, a, b, c, d, d), true, 4},
		{far, 10, 4, []api.Item{d}, log(7, 1, a, b, c, d), true, 11}, {far, 9, 1, []api.Item{c, d}, log(7, 1, a, b, c, d), true, 11},
		{log(top-1, 3), top - 1, 3, nops(3), log(top-1, 3, nop(3, 0)), true, top}, {log(top-2, 3, nop(3, 0)), top - 2, 3, nops(3, 4), log(top-2, 3, nops(3, 4)...), true, top},
	})
}

// P5.6: a log of MaxLog items, and one of more.
func TestFullLogs(t *testing.T) {
	for _, base := range []int{0, 40} {
		term := min(base, 3)
		full := log(base, term, many(api.MaxLog, 3)...)
		most := log(base, term, many(api.MaxLog-1, 3)...)
		last := base + api.MaxLog
		matched(t, []matchCase{
			{log(base, term), base, term, many(api.MaxLog, 3), full, true, base + 1}, {most, last - 1, 3, nops(3), full, true, last},
			{full, base, term, many(api.MaxLog, 3), full, true, 0}, {full, last, 3, nil, full, true, 0}, {full, last, 2, nops(3), full, false, 0}, {full, last + 1, 3, nops(3), full, false, 0},
		})
		unmatched(t, full, last, 3, nops(3), api.ErrFull)
		unmatched(t, full, last-1, 3, nops(3, 3), api.ErrFull)
		unmatched(t, full, last-1, 3, nops(4, 4), api.ErrFull)
		unmatched(t, most, last-1, 3, nops(3, 3), api.ErrFull)
		unmatched(t, full, base+1, 3, many(api.MaxLog, 3), api.ErrFull)
		unmatched(t, full, base+1, 3, many(api.MaxLog, 4), api.ErrFull)
	}
	cut := log(40, 3, many(api.MaxLog, 3)...)
	matched(t, []matchCase{{cut, 39, 3, many(api.MaxLog, 3), cut, true, 0}, {cut, 39, 3, many(api.MaxLog, 4), log(40, 3, many(api.MaxLog-1, 4)...), true, 41}})
}

// P5.6: a log that may not be for what stands ahead of the first fresh one.
func TestLogsThatWouldNotBe(t *testing.T) {
	for _, c := range []struct {
		l         api.Log
		place, of int
		items     []api.Item
	}{
		{abc, 3, 4, []api.Item{nop(4, 2)}}, {abc, 3, 4, []api.Item{nop(9, 0)}}, {abc, 2, 1, []api.Item{nop(2, 2)}}, {abc, 0, 0, nops(1, 1, 4, 4)}, {abc, 0, 0, nops(1, 1, 5)},
		{far, 10, 4, []api.Item{nop(4, 2)}}, {far, 9, 1, nops(2)},
		{log(7, 3), 6, 1, nops(1, 1)}, {log(7, 3), 6, 1, nops(2, 2)}, {log(7, 3), 0, 0, nops(1, 1, 1, 1, 1, 1, 1, 2)}, {log(7, 3, nops(3, 3)...), 6, 1, nops(2, 2)},
		{log(7, 3, nops(3, 3)...), 6, 1, nops(1, 1, 1, 1)},
	} {
		unmatched(t, c.l, c.place, c.of, c.items, api.ErrFull)
	}
}

// P5.6: items that may not stand behind the place; ahead of whether they fit, and whether there is room.
func TestItemsOutOfOrder(t *testing.T) {
	for _, l := range goodLogs() {
		for _, bad := range badLogs() {
			unmatched(t, l, bad.Base, bad.BaseTerm, bad.Items, api.ErrOrder)
		}
	}
	full := log(0, 0, many(api.MaxLog, 3)...)
	for _, l := range []api.Log{{}, abc, far, full, log(top, 3)} {
		last, term, _ := ledger.Last(l)
		unmatched(t, l, last, -1, nil, api.ErrOrder)
		unmatched(t, l, last+1, 0, nil, api.ErrOrder)
		unmatched(t, l, 0, 1, nil, api.ErrOrder)
		unmatched(t, l, last, term, nops(0), api.ErrOrder)
		unmatched(t, l, last, term, []api.Item{nop(max(term, 1), 2), nop(max(term, 1), 1)}, api.ErrOrder)
		unmatched(t, l, last, term, nops(term+2, term+1), api.ErrOrder)
		unmatched(t, l, last, term, many(api.MaxLog+1, term+1), api.ErrOrder)
		unmatched(t, l, top, 1, nops(1), api.ErrOrder)
		unmatched(t, l, math.MaxInt, 1, nops(1), api.ErrOrder)
		unmatched(t, l, math.MinInt, 1, nops(1), api.ErrOrder)
		unmatched(t, l, -1, 1, nil, api.ErrOrder)
	}
	unmatched(t, abc, 3, 4, nops(3), api.ErrOrder)
	unmatched(t, abc, 3, 5, nops(4), api.ErrOrder)
	unmatched(t, far, 2, 3, nops(2), api.ErrOrder)
}
