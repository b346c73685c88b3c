package ledger_test

import (
	"testing"

	"rostrum/api"
	"rostrum/ledger"
)

// roomy: a copy of items, with marked room behind it.
func roomy(l []api.Item) []api.Item {
	return append(append(make([]api.Item, 0, 2*len(l)+3), l...), put(1, 1, "spare"))[:len(l)]
}

func roomyLog(l api.Log) api.Log {
	l.Items = roomy(l.Items)
	return l
}

type given struct {
	l     api.Log
	items []api.Item
}

// What is handed in is not changed, the room behind it neither, and no answer shares memory with it or with another one.
func TestListsAreNotShared(t *testing.T) {
	batches := [][]api.Item{nil, {}, nops(3), nops(4, 4, 9), many(api.MaxLog, 3), nops(2, 1), many(api.MaxLog+1, 3), goodItems()}
	for i, l := range append(goodLogs(), badLogs()...) {
		for _, items := range batches {
			in := given{roomyLog(l), roomy(items)}
			before := whole(in)
			var out []any
			last, term, _ := ledger.Last(in.l)
			for _, place := range []int{l.Base - 1, l.Base, l.Base + 1, last} {
				for _, most := range []int{0, 1, api.MaxLog} {
					x, _ := ledger.Behind(in.l, place, most)
					out = append(out, x)
				}
				for _, of := range []int{0, l.BaseTerm, term} {
					x, _, _, _ := ledger.Match(in.l, place, of, in.items)
					out = append(out, x)
				}
				x, _ := ledger.Trim(in.l, place)
				out = append(out, x)
				ledger.Term(in.l, place)
				ledger.Newer(in.l, place, term)
			}
			ledger.Check(in.l)
			if whole(in) != before {
				t.Errorf("log %d: %+v is changed", i, l)
			}
			if shares(in, out...) {
				t.Errorf("log %d: an answer shares its memory", i)
			}
		}
	}
}

// What is answered stays as it is when what was handed in changes.
func TestAnswersStay(t *testing.T) {
	for _, l := range goodLogs() {
		in := roomyLog(l)
		last, term, _ := ledger.Last(in)
		items := roomy(nil)
		if last < top && len(l.Items) < api.MaxLog {
			items = roomy([]api.Item{{Term: max(term, 1), Time: api.MaxTime, Nop: true}})
		}
		behind, _ := ledger.Behind(in, l.Base, api.MaxLog)
		laid, _, _, _ := ledger.Match(in, last, term, items)
		kept, _, _, _ := ledger.Match(in, last, term, nil)
		cut, _ := ledger.Trim(in, l.Base)
		more := join(l.Items, items)
		clear(in.Items[:cap(in.Items)])
		clear(items[:cap(items)])
		if !sameItems(behind, l.Items) || !sameItems(laid.Items, more) || !same(kept, l) || !same(cut, l) {
			t.Errorf("%v: %v %v %v %v", l, behind, laid, kept, cut)
		}
	}
}

// mayBe: the document's words, one after the other, for drawn logs.
func mayBe(l api.Log) bool {
	ok := l.Base >= 0 && l.Base <= top && l.BaseTerm >= 0 && l.BaseTerm <= top && (l.Base == 0) == (l.BaseTerm == 0) && len(l.Items) <= api.MaxLog && l.Base+len(l.Items) <= top
	for i, x := range l.Items {
		ok = ok && x.Term >= 1 && x.Term >= l.BaseTerm
		for _, y := range l.Items[:i] {
			ok = ok && y.Term <= x.Term && y.Time <= x.Time
		}
	}
	return ok
}

// placed: the items by their places.
func placed(base int, items []api.Item) map[int]api.Item {
	m := map[int]api.Item{}
	for i, x := range items {
		m[base+1+i] = x
	}
	return m
}

// modelled Match: by items that are found by their places.
func modelled(l api.Log, place, of int, items []api.Item) (api.Log, bool, int, api.Errno) {
	if !mayBe(api.Log{Base: place, BaseTerm: of, Items: items}) {
		return api.Log{}, false, 0, api.ErrOrder
	}
	has, comes := placed(l.Base, l.Items), placed(place, items)
	x, there := has[place]
	if !(place < l.Base || place == l.Base && of == l.BaseTerm || there && x.Term == of) {
		return l, false, 0, api.OK
	}
	first := 0
	for at := place + len(items); at > l.Base; at-- {
		if x, ok := comes[at]; ok && x.Term != has[at].Term {
			first = at
		}
	}
	if first == 0 {
		return l, true, 0, api.OK
	}
	out := api.Log{Base: l.Base, BaseTerm: l.BaseTerm}
	for at := l.Base + 1; at < first; at++ {
		out.Items = append(out.Items, has[at])
	}
	for at := first; at <= place+len(items); at++ {
		out.Items = append(out.Items, comes[at])
	}
	if !mayBe(out) {
		return api.Log{}, false, 0, api.ErrFull
	}
	return out, true, first, api.OK
}

// drawn log of few items, of which one in some may not be.
func drawn(r *die) api.Log {
	l := api.Log{Base: r.n(4), BaseTerm: r.n(3)}
	if (l.Base == 0) != (l.BaseTerm == 0) && r.n(4) > 0 {
		l.Base, l.BaseTerm = 1+r.n(3), 1+r.n(2)
	}
	term, time := l.BaseTerm, 0
	for range r.n(6) {
		term, time = term+r.n(3)/2, time+r.n(3)/2
		l.Items = append(l.Items, nop(max(term, 1), time))
	}
	if len(l.Items) > 0 && r.n(8) == 0 {
		l.Items[r.n(len(l.Items))] = nop(r.n(4), r.n(3))
	}
	return l
}

// Drawn logs and items, held against the model.
func TestDrawnMatches(t *testing.T) {
	r := die(11)
	seen := map[api.Errno]int{}
	for range 60000 {
		l, with := drawn(&r), drawn(&r)
		if ok := ledger.Check(l) == api.OK; ok != mayBe(l) {
			t.Fatalf("%+v may be: %v", l, ok)
		}
		if !mayBe(l) {
			continue
		}
		if r.n(2) == 0 { // most drawn ones would not fit
			if term, e := ledger.Term(l, with.Base); e == api.OK {
				with.BaseTerm = term
			}
		}
		out, fits, first, e := ledger.Match(l, with.Base, with.BaseTerm, with.Items)
		o, f, n, g := modelled(l, with.Base, with.BaseTerm, with.Items)
		if !same(out, o) || fits != f || first != n || e != g {
			t.Fatalf("%+v and %+v: %v %v %d %d, want %v %v %d %d", l, with, out, fits, first, int(e), o, f, n, int(g))
		}
		seen[e]++
		if fits && first > 0 {
			seen[-1]++
		}
	}
	for _, e := range []api.Errno{api.OK, api.ErrOrder, api.ErrFull, -1} {
		if seen[e] < 200 {
			t.Errorf("outcome %d was drawn only %d times", int(e), seen[e])
		}
	}
}

// Drawn logs: Trim takes nothing from what is told of the places that stay.
func TestDrawnTrims(t *testing.T) {
	r := die(12)
	for range 20000 {
		l := drawn(&r)
		if !mayBe(l) {
			continue
		}
		last, term, _ := ledger.Last(l)
		at := l.Base + r.n(last-l.Base+1)
		cut, e := ledger.Trim(l, at)
		if e != api.OK || !mayBe(cut) || cut.Base != at {
			t.Fatalf("%+v up to %d: %+v %d", l, at, cut, int(e))
		}
		if p, u, e := ledger.Last(cut); p != last || u != term || e != api.OK {
			t.Fatalf("%+v: the last one is %d of %d", cut, p, u)
		}
		for place := at; place <= last; place++ {
			a, _ := ledger.Term(l, place)
			b, e := ledger.Term(cut, place)
			x, _ := ledger.Behind(l, place, 2)
			y, f := ledger.Behind(cut, place, 2)
			if a != b || e != api.OK || f != api.OK || !sameItems(x, y) {
				t.Fatalf("%+v and %+v differ at %d", l, cut, place)
			}
		}
	}
}

// agree: up to the last place that has an item of the same term in both logs, all that both have is the same.
func agree(t *testing.T, l, m api.Log) {
	t.Helper()
	x, y := placed(l.Base, l.Items), placed(m.Base, m.Items)
	common := 0
	for at := range x {
		if z, ok := y[at]; ok && z.Term == x[at].Term {
			common = max(common, at)
		}
	}
	for at := range x {
		if z, ok := y[at]; ok && at <= common && z != x[at] {
			t.Fatalf("%+v and %+v have the same up to %d, but not at %d", l, m, common, at)
		}
	}
}

// flock: logs, one of which leads in a term.
type flock struct {
	t      *testing.T
	logs   [3]api.Log
	term   int
	laid   int
	common int // all have the same up to here, and nobody lays it anew
}

// lead in a new term: lay a few items of it.
func (f *flock) lead(r *die, who int) {
	f.term++
	for range 1 + r.n(3) {
		f.laid++
		last, term, _ := ledger.Last(f.logs[who])
		x := api.Item{Term: f.term, Time: f.laid / 4, Call: api.Call{Client: 1, Seq: f.laid, Command: api.Command{Kind: api.Keys}}}
		out, fits, first, e := ledger.Match(f.logs[who], last, term, []api.Item{x})
		if e == api.ErrFull {
			return
		}
		if e != api.OK || !fits || first != last+1 {
			f.t.Fatalf("%+v is not laid behind %d: %v %d %d", x, last, fits, first, int(e))
		}
		f.logs[who] = out
	}
}

// send what stands behind a place of one log to another one.
func (f *flock) send(r *die, from, to int) {
	l := f.logs[from]
	last, _, _ := ledger.Last(l)
	at := l.Base + r.n(last-l.Base+1)
	term, _ := ledger.Term(l, at)
	items, _ := ledger.Behind(l, at, r.n(6))
	if out, _, _, e := ledger.Match(f.logs[to], at, term, items); e == api.OK {
		f.logs[to] = out
	}
}

// trim one log up to a place that all have.
func (f *flock) trim(r *die, who int) {
	var has [3]map[int]api.Item
	for i, l := range f.logs {
		has[i] = placed(l.Base, l.Items)
	}
	for {
		at := f.common + 1
		x, ok := has[0][at]
		y, also := has[1][at]
		z, too := has[2][at]
		if !ok || !also || !too || x != y || y != z {
			break
		}
		f.common = at
	}
	if place := f.common - r.n(3); place >= f.logs[who].Base {
		out, e := ledger.Trim(f.logs[who], place)
		if e != api.OK {
			f.t.Fatalf("%+v is not trimmed up to %d: %d", f.logs[who], place, int(e))
		}
		f.logs[who] = out
	}
}

// What comes of it: two logs that have an item of the same term at a place are the same up to there, if each term's items were laid by one alone.
func TestLogsAgree(t *testing.T) {
	for seed := range 40 {
		r := die(seed)
		f := flock{t: t}
		for range 60 {
			who := r.n(3)
			f.lead(&r, who)
			for range r.n(5) {
				f.send(&r, who, r.n(3))
			}
			if seed%2 == 0 && r.n(3) == 0 {
				f.trim(&r, r.n(3))
			}
			for i, l := range f.logs {
				if e := ledger.Check(l); e != api.OK {
					t.Fatalf("%+v may not be", l)
				}
				agree(t, l, f.logs[(i+1)%3])
			}
		}
	}
}
