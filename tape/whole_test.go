package tape_test

import (
	"testing"

	"rostrum/api"
	"rostrum/client"
	"rostrum/tape"
)

// roomy: a list with the same elements, and spare room that is marked.
func roomy[T any](l []T, mark T) []T {
	return append(append(make([]T, 0, 2*len(l)+9), l...), mark)[:len(l)]
}

// roomyMachine: the same machine, with marked room behind each list.
func roomyMachine(m api.Machine) api.Machine {
	m.Store.Entries = roomy(m.Store.Entries, api.Entry{Key: "spare", Value: api.Value{Items: []string{"spare"}}})
	for i := range m.Store.Entries {
		v := &m.Store.Entries[i].Value
		v.Pairs = roomy(v.Pairs, api.Pair{Field: "spare"})
		v.Items = roomy(v.Items, "spare")
		v.Scores = roomy(v.Scores, api.Score{Member: "spare"})
	}
	m.Clients = roomy(m.Clients, api.Client{Id: 7, Reply: api.Reply{List: []string{"spare"}}})
	for i := range m.Clients {
		m.Clients[i].Reply.List = roomy(m.Clients[i].Reply.List, "spare")
	}
	return m
}

func roomyRecords(l []api.Record) []api.Record {
	l = roomy(l, mark(7, 7))
	for i := range l {
		l[i].Snap.Machine = roomyMachine(l[i].Snap.Machine)
	}
	return l
}

func roomyTape(x api.Tape) api.Tape { return tapeOf(x.Synced, roomy(x.Data, 77)) }

type given struct {
	x api.Tape
	l []api.Record
}

// someTapes that may be, and some that may not.
func someTapes() []api.Tape {
	few := bytesOf(fewRecords()...)
	return []api.Tape{
		{}, tapeOf(0, []byte{}), tapeOf(0, []byte{1}), tapeOf(3, few), tapeOf(len(few), few), tapeOf(9, few[:len(few)-1]),
		tapeOf(0, join(few, []byte{0, 0, 5, 9, 9, 9, 9, 9}, few)), tapeOf(-1, few), tapeOf(1, nil),
	}
}

// Tapes and records that are handed in are not changed, the room behind them neither, and no answer shares memory with them or with another one.
func TestTapesAreNotShared(t *testing.T) {
	var all []api.Record
	for _, c := range badRecords() {
		all = append(all, c.r)
	}
	all = roomyRecords(append(all, goodRecords()...))
	for i, x := range someTapes() {
		in := given{roomyTape(x), all}
		before := whole(in)
		var out []any
		for _, r := range in.l {
			y, _ := tape.Append(in.x, r)
			out = append(out, y)
			tape.Check(r)
			tape.CheckSnap(r.Snap)
		}
		for range 2 {
			y, _ := tape.Sync(in.x)
			l, z, _ := tape.Recover(in.x)
			out = append(out, y, l, z)
		}
		for _, keep := range []int{-1, 0, 1, 9, api.MaxTape} {
			y, _ := tape.Crash(in.x, keep)
			out = append(out, y)
		}
		if whole(in) != before {
			t.Errorf("tape %d is changed", i)
		}
		if shares(in, out...) {
			t.Errorf("tape %d: an answer shares its memory", i)
		}
	}
}

// Records and logs that are handed in are not changed, and no disk shares memory with them or with another one.
func TestDisksAreNotShared(t *testing.T) {
	lists := [][]api.Record{
		nil, {}, fewRecords(), lines(0, nops(1, 2, 3)...), {load(snapOf(1, 1, fullMachine()))},
		{load(snapOf(1, 1, fullMachine())), load(snapOf(2, 1, mixedMachine())), line(3, nop(1, 0)), load(snapOf(3, 1, mixedMachine()))},
		{line(1, nop(1, 0)), line(2, nop(1, 0)), line(3, nop(1, 0)), load(snapOf(1, 1, mixedMachine())), line(2, nop(4, 0)), line(3, nop(4, 0))},
		{load(snapOf(1, 1, mixedMachine())), line(9, nop(1, 0))}, {load(snapOf(1, 1, mixedMachine())), {}},
	}
	for i, l := range lists {
		in := roomyRecords(l)
		before := whole(in)
		a, _ := tape.Fold(in)
		b, _ := tape.Fold(in)
		if whole(in) != before || shares(in, a, b, tape.New(), tape.New()) || !same(a, b) {
			t.Errorf("records %d are changed, or shared", i)
		}
	}
	type pair struct {
		l api.Log
		s api.Snap
	}
	for _, l := range []api.Log{{}, log(3, 1), log(3, 1, nops(1, 2, 3)...), log(3, 0)} {
		for at := range 8 {
			for term := range 4 {
				in := pair{log(l.Base, l.BaseTerm, roomy(l.Items, nop(7, 7))...), snapOf(at, term, roomyMachine(mixedMachine()))}
				before := whole(in)
				a, _ := tape.Rest(in.l, in.s)
				b, _ := tape.Rest(in.l, in.s)
				if whole(in) != before || shares(in, a, b) || !same(a, b) {
					t.Errorf("%+v behind %d is changed, or shared", l, at)
				}
			}
		}
	}
}

// What is answered stays as it is when what was handed in changes.
func TestAnswersStay(t *testing.T) {
	in := roomyRecords(records(lines(0, nops(1, 1)...), []api.Record{load(snapOf(1, 1, fullMachine()))}))
	d, _ := tape.Fold(in)
	m := in[2].Snap.Machine
	for _, x := range m.Store.Entries {
		clear(x.Value.Items)
		clear(x.Value.Pairs)
		clear(x.Value.Scores)
	}
	clear(m.Store.Entries)
	clear(m.Clients[0].Reply.List)
	clear(m.Clients)
	clear(in)
	if !same(d, disk(0, -1, snapOf(1, 1, fullMachine()), log(1, 1, nop(1, 0)))) {
		t.Errorf("the disk changed to %+v", d)
	}
	b := bytesOf(fewRecords()...)
	l, x, _ := tape.Recover(tapeOf(3, b))
	clear(b)
	if !same(l, fewRecords()) || !sameTape(x, tapeOf(3, bytesOf(fewRecords()...))) {
		t.Errorf("the records changed to %+v", l)
	}
}

// model of a disk: items by their places.
type model struct {
	term, vote int
	snap       api.Snap
	base       int
	baseTerm   int
	items      map[int]api.Item
}

func (m *model) last() int { return m.base + len(m.items) }

// termOf a place; 0, if there is none.
func (m *model) termOf(at int) int {
	if at == m.base {
		return m.baseTerm
	}
	return m.items[at].Term
}

// line of an item at a place: does it fit?
func (m *model) line(at int, x api.Item) bool {
	if at <= m.base {
		return true
	}
	if at > m.last()+1 || at-m.base > api.MaxLog || x.Term < m.termOf(at-1) || x.Time < m.items[at-1].Time {
		return false
	}
	for behind := m.last(); behind >= at; behind-- {
		delete(m.items, behind)
	}
	m.items[at] = x
	return true
}

func (m *model) load(s api.Snap) {
	if s.Index <= m.snap.Index {
		return
	}
	fits := m.termOf(s.Index) == s.Term
	for at := range m.items {
		if at <= s.Index || !fits {
			delete(m.items, at)
		}
	}
	m.snap, m.base, m.baseTerm = s, s.Index, s.Term
}

func (m *model) disk() api.Disk {
	l := api.Log{Base: m.base, BaseTerm: m.baseTerm}
	for at := m.base + 1; at <= m.last(); at++ {
		l.Items = append(l.Items, m.items[at])
	}
	return disk(m.term, m.vote, m.snap, l)
}

// modelledFold of records that may be; ok: they are in their order.
func modelledFold(l []api.Record) (d api.Disk, ok bool) {
	m := &model{vote: -1, snap: newSnap(), items: map[int]api.Item{}}
	for _, r := range l {
		switch r.Kind {
		case api.Mark:
			m.term, m.vote = r.Term, r.For
		case api.Line:
			if !m.line(r.Index, r.Item) {
				return api.Disk{}, false
			}
		case api.Load:
			m.load(r.Snap)
		}
	}
	return m.disk(), true
}

// drawnRecord: mostly one that fits a disk.
func drawnRecord(r *die, d api.Disk) api.Record {
	last := d.Log.Base + len(d.Log.Items)
	term, time := d.Log.BaseTerm, 0
	if n := len(d.Log.Items); n > 0 {
		term, time = d.Log.Items[n-1].Term, d.Log.Items[n-1].Time
	}
	switch r.n(8) {
	case 0:
		return mark(1+r.n(9), r.n(api.Nodes+1)-1)
	case 1:
		at := max(1, d.Log.Base+r.n(len(d.Log.Items)+3)-r.n(2))
		s := snap(at, 1+r.n(max(1, term)))
		if k := at - d.Log.Base - 1; k >= 0 && k < len(d.Log.Items) && r.n(2) == 0 {
			s.Term = d.Log.Items[k].Term
		}
		s.Machine.Store.Now = r.n(100)
		return load(s)
	case 2:
		return line(max(1, last+1-r.n(4)), nop(max(1, term+r.n(3)-1), max(0, time+r.n(3)-1)))
	}
	x := nop(max(1, term+r.n(3)/2), time+r.n(3)/2)
	if r.n(2) == 0 {
		x = put(x.Term, x.Time, "t")
	}
	return line(last+1, x)
}

// P6.8: drawn records, held against the model.
func TestDrawnFolds(t *testing.T) {
	wrong := 0
	for seed := range 300 {
		r := die(seed)
		var l []api.Record
		d := tape.New()
		for range 60 {
			l = append(l, drawnRecord(&r, d))
			next, e := tape.Fold(l)
			want, ok := modelledFold(l)
			if ok != (e == api.OK) || !same(next, want) || !ok && e != api.ErrOrder {
				t.Fatalf("seed %d: %+v: %+v %d, want %+v", seed, l, next, int(e), want)
			}
			if d = next; !ok {
				wrong++
				l = l[:len(l)-1]
				d, _ = tape.Fold(l)
			}
		}
	}
	if wrong < 100 {
		t.Errorf("only %d lines were out of order", wrong)
	}
}

// P6.9: drawn logs behind drawn snaps: a log that fits is told no other terms, one that does not has nothing.
func TestDrawnRests(t *testing.T) {
	r := die(8)
	for range 5000 {
		l := log(0, 0)
		if r.n(2) == 0 {
			l.Base, l.BaseTerm = 1+r.n(3), 1+r.n(2)
		}
		m := &model{base: l.Base, baseTerm: l.BaseTerm, items: map[int]api.Item{}}
		term := max(1, l.BaseTerm)
		for range r.n(5) {
			term += r.n(2)
			l.Items = append(l.Items, nop(term, 0))
			m.items[m.last()+1] = nop(term, 0)
		}
		s := snap(1+r.n(8), 1+r.n(4))
		out, e := tape.Rest(l, s)
		m.load(s)
		if e != api.OK || !same(out, m.disk().Log) {
			t.Fatalf("%+v behind %+v: %+v %d", l, s, out, int(e))
		}
	}
}

// writer of a tape, who knows what was written, and what of it was synced.
type writer struct {
	t      *testing.T
	x      api.Tape
	all    []api.Record
	synced int
	disk   api.Disk
}

// write a record, if it leads to a disk that may be.
func (w *writer) write(r api.Record) {
	d, e := tape.Fold(records(w.all, []api.Record{r}))
	if e != api.OK {
		return
	}
	x, e := tape.Append(w.x, r)
	if e != api.OK || x.Synced != w.x.Synced {
		w.t.Fatalf("%+v: %d", r, int(e))
	}
	w.x, w.all, w.disk = x, append(w.all, r), d
}

func (w *writer) sync() {
	x, e := tape.Sync(w.x)
	if e != api.OK {
		w.t.Fatalf("Sync: %d", int(e))
	}
	w.x, w.synced = x, len(w.all)
}

// crash, of what was not synced keep bytes stay: the records that are there are the first ones, and those that were synced are among them.
func (w *writer) crash(keep int) (api.Tape, []api.Record) {
	x, e := tape.Crash(w.x, keep)
	l, y, f := tape.Recover(x)
	if e != api.OK || f != api.OK || len(l) < w.synced || len(l) > len(w.all) || !same(l, w.all[:len(l)]) {
		w.t.Fatalf("%d of %d records, of which %d were synced: %d %d", len(l), len(w.all), w.synced, int(e), int(f))
	}
	if !sameTape(y, tapeOf(len(y.Data), bytesOf(l...))) {
		w.t.Fatalf("%+v is not what is left", y)
	}
	if keep >= len(w.x.Data)-w.x.Synced && len(l) != len(w.all) {
		w.t.Fatalf("%d of %d records, though all bytes are there", len(l), len(w.all))
	}
	d, e := tape.Fold(l)
	if want, ok := modelledFold(w.all[:len(l)]); e != api.OK || !ok || !same(d, want) {
		w.t.Fatalf("the disk is %+v, want %+v", d, want)
	}
	return y, l
}

// What comes of it: what was synced is on the disk behind every crash, whatever is written before and behind it.
func TestSyncedStays(t *testing.T) {
	for seed := range 25 {
		r := die(seed)
		w := &writer{t: t, disk: tape.New()}
		for range 60 {
			w.write(drawnRecord(&r, w.disk))
			switch r.n(6) {
			case 0:
				w.sync()
			case 1:
				for keep := range len(w.x.Data) - w.x.Synced + 2 {
					w.crash(keep)
				}
			case 2:
				w.x, w.all = w.crash(r.n(80))
				w.synced = len(w.all) // all that is left is synced
				w.disk, _ = tape.Fold(w.all)
			}
		}
	}
}

// A machine that is on the tape is there again behind a crash, with all that clients were told.
func TestMachinesOutlastCrashes(t *testing.T) {
	m := client.New()
	var x api.Tape
	for i := range 40 {
		c := api.Call{}
		if i > 0 {
			c = api.Call{Client: 1, Seq: i, Command: api.Command{Kind: api.Push, Key: string(rune('a' + i%5)), Text: "t"}}
		}
		m, _, _ = client.Do(m, i, c)
		x, _ = tape.Append(x, load(snapOf(i+1, 1, m)))
		x, _ = tape.Sync(x)
		torn, _ := tape.Append(x, load(snapOf(top, 1, fullMachine())))
		torn, _ = tape.Crash(torn, len(torn.Data)-len(x.Data)-1)
		l, y, e := tape.Recover(torn)
		d, f := tape.Fold(l)
		if e != api.OK || f != api.OK || !sameTape(y, x) || !same(d.Snap, snapOf(i+1, 1, m)) {
			t.Fatalf("step %d: %+v %d %d, want %+v", i, d.Snap, int(e), int(f), m)
		}
	}
}
