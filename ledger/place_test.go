package ledger_test

import (
	"math"
	"testing"

	"rostrum/api"
	"rostrum/ledger"
)

// P5.2: the last place and its term.
func TestLast(t *testing.T) {
	for i, c := range []struct {
		l           api.Log
		place, term int
	}{
		{api.Log{}, 0, 0}, {log(3, 2), 3, 2}, {log(top, 1), top, 1}, {log(1, top), 1, top},
		{log(0, 0, nop(4, 0)), 1, 4}, {log(0, 0, nops(1, 1, 3)...), 3, 3}, {log(3, 2, nop(2, 0)), 4, 2}, {log(3, 2, nops(2, 5)...), 5, 5},
		{log(0, 0, many(api.MaxLog, 6)...), api.MaxLog, 6}, {log(top-1, 1, nop(top, 0)), top, top}, {log(top-api.MaxLog, 3, many(api.MaxLog, 4)...), top, 4},
	} {
		if p, u, e := ledger.Last(c.l); p != c.place || u != c.term || e != api.OK {
			t.Errorf("case %d: %d %d %d, want %d %d", i, p, u, int(e), c.place, c.term)
		}
	}
}

type placeCase struct {
	l     api.Log
	place int
	term  int
	e     api.Errno
}

// placeCases: places below, at and behind Base, the last one, and behind it.
func placeCases() []placeCase {
	full := log(9, 2, join(many(api.MaxLog-1, 3), nops(8))...)
	l := []placeCase{
		{api.Log{}, 0, 0, api.OK}, {api.Log{}, 1, 0, api.ErrNone}, {api.Log{}, top, 0, api.ErrNone},
		{log(0, 0, nops(1, 1, 4)...), 0, 0, api.OK}, {log(0, 0, nops(1, 1, 4)...), 1, 1, api.OK}, {log(0, 0, nops(1, 1, 4)...), 2, 1, api.OK},
		{log(0, 0, nops(1, 1, 4)...), 3, 4, api.OK}, {log(0, 0, nops(1, 1, 4)...), 4, 0, api.ErrNone},
		{log(3, 2), 0, 0, api.ErrGone}, {log(3, 2), 2, 0, api.ErrGone}, {log(3, 2), 3, 2, api.OK}, {log(3, 2), 4, 0, api.ErrNone}, {log(3, 2), top, 0, api.ErrNone},
		{log(3, 2, nops(5, 6)...), 0, 0, api.ErrGone}, {log(3, 2, nops(5, 6)...), 2, 0, api.ErrGone}, {log(3, 2, nops(5, 6)...), 3, 2, api.OK},
		{log(3, 2, nops(5, 6)...), 4, 5, api.OK}, {log(3, 2, nops(5, 6)...), 5, 6, api.OK}, {log(3, 2, nops(5, 6)...), 6, 0, api.ErrNone},
		{full, 8, 0, api.ErrGone}, {full, 9, 2, api.OK}, {full, 10, 3, api.OK}, {full, 8 + api.MaxLog, 3, api.OK}, {full, 9 + api.MaxLog, 8, api.OK}, {full, 10 + api.MaxLog, 0, api.ErrNone},
		{log(top, 7), top, 7, api.OK}, {log(top, 7), top - 1, 0, api.ErrGone}, {log(top-1, 7, nop(8, 0)), top, 8, api.OK}, {log(top-1, 7, nop(8, 0)), top - 1, 7, api.OK},
	}
	return l
}

// noPlaces: numbers that are none.
var noPlaces = [...]int{-1, -2, math.MinInt, top + 1, top + 2, math.MaxInt}

// P5.3: the term at a place.
func TestTerm(t *testing.T) {
	for i, c := range placeCases() {
		if u, e := ledger.Term(c.l, c.place); u != c.term || e != c.e {
			t.Errorf("case %d: %d %d, want %d %d", i, u, int(e), c.term, int(c.e))
		}
	}
	for i, l := range goodLogs() {
		for _, place := range noPlaces {
			if u, e := ledger.Term(l, place); u != 0 || e != api.ErrRange {
				t.Errorf("log %d at %d: %d %d", i, place, u, int(e))
			}
		}
	}
}

// P5.4: what stands behind a place, as much as is asked for.
func TestBehind(t *testing.T) {
	a, b, c := put(1, 0, "a"), put(1, 3, "b"), nop(4, 3)
	whole, cut := log(0, 0, a, b, c), log(7, 1, a, b, c)
	full := log(9, 2, many(api.MaxLog, 3)...)
	for i, x := range []struct {
		l           api.Log
		place, most int
		want        []api.Item
	}{
		{api.Log{}, 0, 0, nil}, {api.Log{}, 0, 5, nil}, {log(3, 2), 3, 0, nil}, {log(3, 2), 3, 1, nil},
		{whole, 0, 0, nil}, {whole, 0, 1, []api.Item{a}}, {whole, 0, 2, []api.Item{a, b}}, {whole, 0, 3, []api.Item{a, b, c}}, {whole, 0, 4, []api.Item{a, b, c}},
		{whole, 0, math.MaxInt, []api.Item{a, b, c}}, {whole, 1, 1, []api.Item{b}}, {whole, 1, 9, []api.Item{b, c}}, {whole, 2, 9, []api.Item{c}}, {whole, 3, 9, nil}, {whole, 3, 0, nil},
		{cut, 7, 0, nil}, {cut, 7, 2, []api.Item{a, b}}, {cut, 7, 3, []api.Item{a, b, c}}, {cut, 8, math.MaxInt, []api.Item{b, c}}, {cut, 9, 1, []api.Item{c}}, {cut, 10, 1, nil},
		{full, 9, api.MaxLog, many(api.MaxLog, 3)}, {full, 9, api.MaxLog + 1, many(api.MaxLog, 3)}, {full, 9, api.MaxLog - 1, many(api.MaxLog-1, 3)}, {full, 10, api.MaxLog, many(api.MaxLog-1, 3)},
	} {
		if got, e := ledger.Behind(x.l, x.place, x.most); e != api.OK || !sameItems(got, x.want) {
			t.Errorf("case %d: %v %d, want %v", i, got, int(e), x.want)
		}
	}
}

// P5.4: what is refused, and what is named first.
func TestBehindRefuses(t *testing.T) {
	refused := func(l api.Log, place, most int, want api.Errno) {
		t.Helper()
		if got, e := ledger.Behind(l, place, most); e != want || len(got) > 0 {
			t.Errorf("%d items behind %d: %v %d, want %d", most, place, got, int(e), int(want))
		}
	}
	for _, c := range placeCases() {
		for _, most := range []int{-1, -2, math.MinInt} {
			refused(c.l, c.place, most, api.ErrRange)
		}
		if c.e != api.OK {
			for _, most := range []int{0, 1, 300, math.MaxInt} {
				refused(c.l, c.place, most, c.e)
			}
		}
	}
	for _, l := range goodLogs() {
		for _, place := range noPlaces {
			for _, most := range []int{-1, 0, 1, math.MaxInt} {
				refused(l, place, most, api.ErrRange)
			}
		}
	}
}

// P5.5: a term above the last one, or the same with a place not below the last one. Whatever the numbers are, they are compared.
func TestNewer(t *testing.T) {
	whole, cut := log(0, 0, nops(1, 4, 4)...), log(3, 2)
	for i, c := range []struct {
		l         api.Log
		place, of int
		want      bool
	}{
		{api.Log{}, 0, 0, true}, {api.Log{}, 1, 0, true}, {api.Log{}, 0, 1, true}, {api.Log{}, -1, 0, false}, {api.Log{}, -1, 1, true}, {api.Log{}, 5, -1, false},
		{whole, 3, 4, true}, {whole, 4, 4, true}, {whole, 2, 4, false}, {whole, 0, 4, false}, {whole, 0, 5, true}, {whole, 2, 5, true}, {whole, 3, 3, false}, {whole, 9, 3, false}, {whole, top, 0, false}, {whole, 0, 0, false},
		{cut, 3, 2, true}, {cut, 4, 2, true}, {cut, 2, 2, false}, {cut, 0, 2, false}, {cut, 0, 3, true}, {cut, 3, 1, false}, {cut, 9, 1, false},
		{log(top, top), top, top, true}, {log(top, top), top - 1, top, false}, {log(top, top), top, top - 1, false},
		{whole, math.MinInt, 5, true}, {whole, math.MaxInt, 4, true}, {whole, math.MinInt, 4, false}, {whole, math.MaxInt, 3, false}, {whole, 0, math.MaxInt, true}, {whole, top, math.MinInt, false}, {whole, -1, top + 1, true},
	} {
		if got, e := ledger.Newer(c.l, c.place, c.of); got != c.want || e != api.OK {
			t.Errorf("case %d: %d of %d: %v %d, want %v", i, c.place, c.of, got, int(e), c.want)
		}
	}
}

// P5.7: the log from a place on.
func TestTrim(t *testing.T) {
	a, b, c := put(1, 0, "a"), put(1, 3, "b"), nop(4, 3)
	whole, cut := log(0, 0, a, b, c), log(7, 1, a, b, c)
	for i, x := range []struct {
		l     api.Log
		place int
		want  api.Log
	}{
		{api.Log{}, 0, api.Log{}}, {log(3, 2), 3, log(3, 2)}, {whole, 0, whole}, {whole, 1, log(1, 1, b, c)}, {whole, 2, log(2, 1, c)}, {whole, 3, log(3, 4)},
		{cut, 7, cut}, {cut, 8, log(8, 1, b, c)}, {cut, 9, log(9, 1, c)}, {cut, 10, log(10, 4)},
		{log(top-1, 7, nop(8, 0)), top, log(top, 8)}, {log(top, 7), top, log(top, 7)},
		{log(9, 2, many(api.MaxLog, 3)...), 9, log(9, 2, many(api.MaxLog, 3)...)}, {log(9, 2, many(api.MaxLog, 3)...), 10, log(10, 3, many(api.MaxLog-1, 3)...)},
	} {
		got, e := ledger.Trim(x.l, x.place)
		if e != api.OK || !same(got, x.want) {
			t.Errorf("case %d: %v %d, want %v", i, got, int(e), x.want)
		}
		if e := ledger.Check(got); e != api.OK {
			t.Errorf("case %d: %v may not be", i, got)
		}
	}
}

// P5.7: what is gone, or has not come yet, whatever the number is.
func TestTrimRefuses(t *testing.T) {
	refused := func(l api.Log, place int, want api.Errno) {
		t.Helper()
		if got, e := ledger.Trim(l, place); e != want || !empty(got) {
			t.Errorf("up to %d: %v %d, want %d", place, got, int(e), int(want))
		}
	}
	for _, c := range placeCases() {
		if c.e != api.OK {
			refused(c.l, c.place, c.e)
		}
	}
	for _, l := range goodLogs() {
		for _, place := range noPlaces {
			want := api.ErrNone
			if place < 0 {
				want = api.ErrGone
			}
			refused(l, place, want)
		}
	}
}
