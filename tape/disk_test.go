package tape_test

import (
	"math"
	"testing"

	"rostrum/api"
	"rostrum/client"
	"rostrum/tape"
)

func disk(term, vote int, s api.Snap, l api.Log) api.Disk {
	return api.Disk{Term: term, For: vote, Snap: s, Log: l}
}

// newSnap: that of a new disk.
func newSnap() api.Snap { return api.Snap{Machine: client.New()} }

// lines of items behind a place.
func lines(behind int, items ...api.Item) []api.Record {
	var l []api.Record
	for i, x := range items {
		l = append(l, line(behind+1+i, x))
	}
	return l
}

// records of lists, one behind the other.
func records(lists ...[]api.Record) []api.Record {
	var all []api.Record
	for _, l := range lists {
		all = append(all, l...)
	}
	return all
}

func folded(t *testing.T, l []api.Record, want api.Disk) {
	t.Helper()
	if d, e := tape.Fold(l); e != api.OK || !same(d, want) {
		t.Errorf("%+v: %+v %d, want %+v", l, d, int(e), want)
	}
}

func notFolded(t *testing.T, l []api.Record, want api.Errno) {
	t.Helper()
	if d, e := tape.Fold(l); e != want || !same(d, api.Disk{}) {
		t.Errorf("%+v: %+v %d, want %d", l, d, int(e), int(want))
	}
}

// P6.8: nothing is on a new disk.
func TestNew(t *testing.T) {
	if d := tape.New(); !same(d, disk(0, -1, newSnap(), api.Log{})) {
		t.Errorf("%+v", d)
	}
	folded(t, nil, tape.New())
	folded(t, []api.Record{}, tape.New())
}

// P6.8: a Mark tells Term and For, whatever was told before.
func TestFoldMarks(t *testing.T) {
	for _, r := range []api.Record{mark(1, -1), mark(1, 0), mark(3, api.Nodes-1), mark(top, 1)} {
		folded(t, []api.Record{r}, disk(r.Term, r.For, newSnap(), api.Log{}))
		folded(t, []api.Record{mark(7, 1), mark(top, -1), r}, disk(r.Term, r.For, newSnap(), api.Log{}))
		folded(t, []api.Record{line(1, nop(5, 5)), load(snap(1, 5)), line(2, nop(5, 5)), r}, disk(r.Term, r.For, snap(1, 5), log(1, 5, nop(5, 5))))
	}
}

// P6.8: a Line stands at its place, and nothing behind it.
func TestFoldLines(t *testing.T) {
	a, b, c, d, x := nop(1, 0), put(1, 2, "b"), api.Item{Term: 2, Time: 2}, nop(4, 7), put(2, 2, "x")
	four := lines(0, a, b, c, d)
	for _, k := range []struct {
		l    []api.Record
		want api.Log
	}{
		{lines(0, a), log(0, 0, a)},
		{four, log(0, 0, a, b, c, d)},
		{records(four, lines(4, d)), log(0, 0, a, b, c, d, d)},
		{records(four, lines(3, x)), log(0, 0, a, b, c, x)},
		{records(four, lines(2, x)), log(0, 0, a, b, x)},
		{records(four, lines(1, x)), log(0, 0, a, x)},
		{records(four, lines(0, x)), log(0, 0, x)},
		{records(four, lines(0, a)), log(0, 0, a)},
		{records(four, lines(1, b)), log(0, 0, a, b)}, // the same item, too
		{records(four, lines(1, x, x, d)), log(0, 0, a, x, x, d)},
		{records(four, lines(0, d), lines(1, d)), log(0, 0, d, d)},
	} {
		folded(t, k.l, disk(0, -1, newSnap(), k.want))
	}
	full := many(api.MaxLog, 1)
	folded(t, lines(0, full...), disk(0, -1, newSnap(), log(0, 0, full...)))
	folded(t, records(lines(0, full...), lines(api.MaxLog-1, x)), disk(0, -1, newSnap(), log(0, 0, append(many(api.MaxLog-1, 1), x)...)))
}

// P6.8: a Line at the log's Base, or below it, is nothing; right behind it it stands, one further it does not.
func TestFoldLinesBehindBase(t *testing.T) {
	base := load(snap(5, 3))
	for _, x := range []api.Item{nop(1, 0), nop(3, 0), nop(9, 9)} {
		for _, at := range []int{1, 2, 4, 5} {
			folded(t, []api.Record{base, line(at, x)}, disk(0, -1, snap(5, 3), log(5, 3)))
			folded(t, []api.Record{base, line(6, nop(4, 4)), line(at, x)}, disk(0, -1, snap(5, 3), log(5, 3, nop(4, 4))))
		}
	}
	folded(t, []api.Record{base, line(6, nop(3, 0))}, disk(0, -1, snap(5, 3), log(5, 3, nop(3, 0))))
	folded(t, []api.Record{base, line(6, nop(9, 1)), line(7, nop(9, 1)), line(6, nop(8, 0))}, disk(0, -1, snap(5, 3), log(5, 3, nop(8, 0))))
	for _, at := range []int{7, 8, 205, top} {
		notFolded(t, []api.Record{base, line(at, nop(3, 0))}, api.ErrOrder)
	}
	folded(t, []api.Record{load(snap(top-1, 3)), line(top, nop(3, 0))}, disk(0, -1, snap(top-1, 3), log(top-1, 3, nop(3, 0))))
	folded(t, []api.Record{load(snap(top, 3)), line(top, nop(3, 0))}, disk(0, -1, snap(top, 3), log(top, 3)))
	notFolded(t, []api.Record{load(snap(top-2, 3)), line(top, nop(3, 0))}, api.ErrOrder)
}

// P6.8: a Line more than one behind the last place, or behind which the log may not be.
func TestFoldLinesOutOfOrder(t *testing.T) {
	three := lines(0, nop(2, 2), nop(3, 3), nop(3, 4))
	for _, r := range []api.Record{
		line(5, nop(3, 4)), line(6, nop(9, 9)), line(top, nop(3, 4)), // too far
		line(4, nop(2, 4)), line(4, nop(1, 9)), line(3, nop(2, 9)), line(2, nop(1, 9)), // a term that falls
		line(4, nop(3, 3)), line(4, nop(9, 0)), line(3, nop(3, 2)), line(2, nop(2, 1)), // a time that falls
	} {
		notFolded(t, records(three, []api.Record{r}), api.ErrOrder)
		notFolded(t, records(three, []api.Record{r, mark(1, 1)}), api.ErrOrder)
	}
	for _, at := range []int{2, 3, top} {
		notFolded(t, []api.Record{line(at, nop(1, 0))}, api.ErrOrder)
		notFolded(t, []api.Record{mark(1, 1), line(at, nop(1, 0))}, api.ErrOrder)
	}
	notFolded(t, []api.Record{load(snap(5, 3)), line(6, nop(2, 9))}, api.ErrOrder)
	notFolded(t, []api.Record{load(snap(5, 3)), line(6, nop(4, 9)), line(6, nop(2, 9))}, api.ErrOrder)
	full := lines(0, many(api.MaxLog, 1)...)
	notFolded(t, records(full, lines(api.MaxLog, nop(1, 0))), api.ErrOrder)
	folded(t, records(full, []api.Record{load(snap(1, 1))}, lines(api.MaxLog, nop(1, 0))), disk(0, -1, snap(1, 1), log(1, 1, many(api.MaxLog, 1)...)))
	notFolded(t, records(full, []api.Record{load(snap(1, 1))}, lines(api.MaxLog, nop(1, 0), nop(1, 0))), api.ErrOrder)
}

// P6.8: a Load above the snap's Index is the snap; at or below it, it is nothing.
func TestFoldLoads(t *testing.T) {
	for _, m := range []api.Machine{client.New(), mixedMachine(), fullMachine()} {
		for _, n := range []int{1, 2, top} {
			s := snapOf(n, 7, m)
			folded(t, []api.Record{load(s)}, disk(0, -1, s, log(n, 7)))
		}
		four := lines(0, nop(1, 0), nop(2, 1), nop(2, 2), nop(3, 3))
		for _, c := range []struct {
			s    api.Snap
			want api.Log
		}{
			{snapOf(1, 1, m), log(1, 1, nop(2, 1), nop(2, 2), nop(3, 3))},
			{snapOf(3, 2, m), log(3, 2, nop(3, 3))},
			{snapOf(4, 3, m), log(4, 3)},
			{snapOf(5, 3, m), log(5, 3)},
			{snapOf(3, 1, m), log(3, 1)},
			{snapOf(3, 3, m), log(3, 3)},
			{snapOf(4, 2, m), log(4, 2)},
		} {
			folded(t, records(four, []api.Record{load(c.s)}), disk(0, -1, c.s, c.want))
			if c.s.Index > 1 {
				folded(t, records(four, []api.Record{load(snap(1, 1)), load(c.s)}), disk(0, -1, c.s, c.want))
			}
		}
	}
	base := []api.Record{load(snapOf(5, 3, mixedMachine())), line(6, nop(4, 0))}
	for _, s := range []api.Snap{snap(4, 3), snap(1, 1), snap(5, 3), snap(5, 9), snap(4, 9), snap(1, top)} {
		folded(t, records(base, []api.Record{load(s)}), disk(0, -1, snapOf(5, 3, mixedMachine()), log(5, 3, nop(4, 0))))
	}
	folded(t, records(base, []api.Record{load(snap(6, 4))}), disk(0, -1, snap(6, 4), log(6, 4)))
	folded(t, records(base, []api.Record{load(snap(6, 1)), line(7, nop(1, 0))}), disk(0, -1, snap(6, 1), log(6, 1, nop(1, 0))))
	folded(t, records(base, []api.Record{load(snap(9, 4))}), disk(0, -1, snap(9, 4), log(9, 4)))
}

// P6.8: what Check refuses of a record is refused, be it one that would do nothing; of several faults the first one is told.
func TestFoldRefuses(t *testing.T) {
	for _, c := range badRecords() {
		for _, ahead := range [][]api.Record{nil, {mark(1, 1)}, {load(snap(top, top))}, lines(0, nop(1, 0), nop(2, 0))} {
			notFolded(t, records(ahead, []api.Record{c.r}), c.e)
			notFolded(t, records(ahead, []api.Record{c.r, mark(2, 2)}), c.e)
			notFolded(t, records(ahead, []api.Record{c.r, {Kind: 9}}), c.e)
			notFolded(t, records(ahead, []api.Record{c.r, line(top, nop(1, 0))}), c.e)
		}
	}
	notFolded(t, []api.Record{{Kind: api.Line, Index: 9, Item: nop(1, 0), For: -1}}, api.ErrForm)
	notFolded(t, []api.Record{line(9, nop(1, -1))}, api.ErrRange)
	notFolded(t, []api.Record{line(2, nop(1, 0)), {Kind: 9}}, api.ErrOrder)
}

// P6.8: more records than a tape could have.
func TestFoldMany(t *testing.T) {
	var l []api.Record
	for i := range 100000 {
		l = append(l, line(1+i%api.MaxLog, nop(1, 0)), mark(1+i, i%3))
	}
	folded(t, l, disk(100000, 99999%3, newSnap(), log(0, 0, many(api.MaxLog, 1)...)))
}

// P6.9
func TestRest(t *testing.T) {
	items := []api.Item{nop(3, 1), put(3, 1, "x"), nop(5, 1), nop(5, 2)}
	l := log(10, 2, items...) // places 11 to 14
	for _, c := range []struct {
		s    api.Snap
		want api.Log
	}{
		{snap(10, 2), l},
		{snap(11, 3), log(11, 3, items[1:]...)},
		{snap(12, 3), log(12, 3, items[2:]...)},
		{snap(13, 5), log(13, 5, items[3:]...)},
		{snap(14, 5), log(14, 5)},
		{snap(10, 3), log(10, 3)}, {snap(10, 1), log(10, 1)}, {snap(11, 2), log(11, 2)}, {snap(11, 4), log(11, 4)}, // another term
		{snap(13, 3), log(13, 3)}, {snap(14, 3), log(14, 3)}, {snap(14, 6), log(14, 6)}, {snap(12, top), log(12, top)},
		{snap(9, 2), log(9, 2)}, {snap(9, 1), log(9, 1)}, {snap(1, 1), log(1, 1)}, {snap(1, 3), log(1, 3)}, // below Base
		{snap(15, 5), log(15, 5)}, {snap(15, 6), log(15, 6)}, {snap(16, 2), log(16, 2)}, {snap(top, top), log(top, top)}, // behind the last one
	} {
		for _, m := range []api.Machine{client.New(), mixedMachine()} {
			if x, e := tape.Rest(l, snapOf(c.s.Index, c.s.Term, m)); e != api.OK || !same(x, c.want) {
				t.Errorf("%+v: %+v %d, want %+v", c.s, x, int(e), c.want)
			}
		}
	}
	for _, c := range []struct {
		l    api.Log
		s    api.Snap
		want api.Log
	}{
		{api.Log{}, snap(2, 1), log(2, 1)}, {api.Log{}, snap(1, 1), log(1, 1)}, {log(0, 0, nop(1, 0)), snap(1, 1), log(1, 1)},
		{log(0, 0, nop(1, 0)), snap(1, 2), log(1, 2)}, {log(0, 0, nops(1, 1)...), snap(1, 1), log(1, 1, nop(1, 0))},
		{log(top, 1), snap(top, 1), log(top, 1)}, {log(top, 1), snap(top-1, 1), log(top-1, 1)}, {log(top-1, 1, nop(2, 0)), snap(top, 2), log(top, 2)},
		{log(0, 0, many(api.MaxLog, 1)...), snap(1, 1), log(1, 1, many(api.MaxLog-1, 1)...)},
		{log(0, 0, many(api.MaxLog, 1)...), snap(api.MaxLog, 1), log(api.MaxLog, 1)},
		{log(7, 1, many(api.MaxLog, 1)...), snap(7, 1), log(7, 1, many(api.MaxLog, 1)...)},
	} {
		if x, e := tape.Rest(c.l, c.s); e != api.OK || !same(x, c.want) {
			t.Errorf("%+v behind %+v: %+v %d, want %+v", c.l, c.s, x, int(e), c.want)
		}
	}
}

// P6.9: a log that may not be is told ahead of a snap that may not be.
func TestRestRefuses(t *testing.T) {
	var snaps []api.Snap
	for _, c := range badRecords() {
		if c.r.Kind == api.Load {
			snaps = append(snaps, c.r.Snap)
		}
	}
	for _, l := range []api.Log{
		log(0, 1), log(1, 0), log(-1, 1), log(top+1, 1), log(math.MaxInt, 1), log(0, 0, nops(2, 1)...), log(3, 2, nop(1, 0)), log(0, 0, nop(1, 1), nop(1, 0)),
		log(0, 0, api.Item{}), log(0, 0, many(api.MaxLog+1, 1)...), log(top, 1, nop(1, 0)),
	} {
		for _, s := range append(snaps, snap(1, 1), snap(top, 1), snap(3, 2)) {
			if x, e := tape.Rest(l, s); e != api.ErrState || !same(x, api.Log{}) {
				t.Errorf("%+v behind %+v: %+v %d", l, s, x, int(e))
			}
		}
	}
	for _, l := range []api.Log{{}, log(1, 1), log(0, 0, nops(1, 2)...)} {
		for _, s := range snaps {
			if x, e := tape.Rest(l, s); e != tape.CheckSnap(s) || !same(x, api.Log{}) {
				t.Errorf("%+v behind %+v: %+v %d", l, s, x, int(e))
			}
		}
		if x, e := tape.Rest(l, snapOf(0, 1, api.Machine{})); e != api.ErrRange || !same(x, api.Log{}) {
			t.Errorf("%+v: %+v %d", l, x, int(e))
		}
	}
}
