package crew_test

import (
	"bytes"
	"fmt"
	"testing"

	"rostrum/api"
	"rostrum/client"
	"rostrum/ledger"
	"rostrum/wire"
)

// deed: what is done at a place, what came of it, and whether somebody was told so.
type deed struct {
	item    api.Item
	reply   api.Reply
	machine []byte
	told    bool
}

// spot: a place, and the term of what stands there.
type spot struct{ place, term int }

// laid: what stands at a spot, and the term of what is ahead of it.
type laid struct {
	item  api.Item
	ahead int
}

// witness of a script: what was seen so far, behind whichever act, at whichever node.
type witness struct {
	t       *testing.T
	deeds   []deed // by their places, from 1 on
	machine api.Machine
	stood   map[spot]laid
	led     map[int]int
	told    []api.Told
	counts  map[string]int
}

func newWitness(t *testing.T, counts map[string]int) *witness {
	return &witness{t: t, deeds: make([]deed, 1), machine: client.New(), stood: map[spot]laid{}, led: map[int]int{}, counts: counts}
}

// machineBytes: no two machines have the same.
func machineBytes(t *testing.T, m api.Machine) []byte {
	b, e := wire.Encode(m)
	if e != api.OK {
		t.Fatalf("%+v may not be: %d", m, int(e))
	}
	return b
}

// sees the outcome behind an act.
func (w *witness) sees(a api.Act, o api.Outcome) {
	for i, v := range o.Nodes {
		w.seesLog(i, v.Log)
		w.seesDone(i, v)
	}
	w.seesLed(o)
	for i, x := range o.Told {
		if i < len(w.told) {
			if fmt.Sprint(x) != fmt.Sprint(w.told[i]) {
				w.t.Fatalf("told %+v, and now %+v", w.told[i], x)
			}
			continue
		}
		w.seesTold(a, x, o)
		w.told = append(w.told, x)
	}
	if len(o.Told) < len(w.told) {
		w.t.Fatalf("%d were told, and now %d", len(w.told), len(o.Told))
	}
}

// seesLog: what has the same term at the same place is the same, and so is what is ahead of it, step by step.
func (w *witness) seesLog(n int, l api.Log) {
	if e := ledger.Check(l); e != api.OK {
		w.t.Fatalf("node %d: %+v may not be", n, l)
	}
	ahead := l.BaseTerm
	for i, x := range l.Items {
		at := spot{l.Base + 1 + i, x.Term}
		if old, ok := w.stood[at]; ok && old != (laid{x, ahead}) {
			w.t.Fatalf("node %d: at %+v stands %+v behind the term %d, it was %+v", n, at, x, ahead, old)
		}
		w.stood[at] = laid{x, ahead}
		ahead = x.Term
	}
}

// seesDone: at each place the same is done, at all nodes and at all times, and the machine is what comes of that.
func (w *witness) seesDone(n int, v api.View) {
	for i, x := range v.Log.Items {
		place := v.Log.Base + 1 + i
		if place > v.Commit {
			break
		}
		if place == len(w.deeds) {
			w.adds(x)
		}
		if place > len(w.deeds) || w.deeds[place].item != x {
			w.t.Fatalf("node %d: %+v is done at %d of %d", n, x, place, len(w.deeds)-1)
		}
	}
	if v.Commit >= len(w.deeds) || v.Commit < v.Log.Base || v.Log.Base > 0 && w.deeds[v.Log.Base].item.Term != v.Log.BaseTerm {
		w.t.Fatalf("node %d: %+v; %d are done", n, v, len(w.deeds)-1)
	}
	want := machineBytes(w.t, client.New())
	if v.Commit > 0 {
		want = w.deeds[v.Commit].machine
	}
	if !bytes.Equal(machineBytes(w.t, v.Machine), want) {
		w.t.Fatalf("node %d: %+v is not what comes of %d items", n, v.Machine, v.Commit)
	}
}

// adds what is done next.
func (w *witness) adds(x api.Item) {
	d := deed{item: x}
	if !x.Nop {
		w.machine, d.reply, _ = client.Do(w.machine, x.Time, x.Call)
	}
	d.machine = machineBytes(w.t, w.machine)
	w.deeds = append(w.deeds, d)
	w.counts["done"]++
}

// seesLed: one a term, the terms rise, and who leads is one of them.
func (w *witness) seesLed(o api.Outcome) {
	last := 0
	for _, x := range o.Led {
		if n, ok := w.led[x.Term]; ok && n != x.Node || x.Term <= last {
			w.t.Fatalf("led: %+v; in term %d node %d", o.Led, x.Term, n)
		}
		last, w.led[x.Term] = x.Term, x.Node
	}
	for i, v := range o.Nodes {
		if n, ok := w.led[v.Term]; v.Leads && (!ok || n != i) {
			w.t.Fatalf("node %d leads in %d; led: %+v", i, v.Term, o.Led)
		}
	}
	w.counts["led"] = max(w.counts["led"], len(o.Led))
}

// seesTold: behind an Ask, that it can't be; else what came of something that is done, of which nobody was told as yet.
func (w *witness) seesTold(a api.Act, x api.Told, o api.Outcome) {
	if a.Kind == api.Ask {
		up, leads := o.Nodes[a.Node].Up, o.Nodes[a.Node].Leads
		want := map[bool]api.Errno{!up: api.ErrState, up && !leads: api.ErrLead, leads: api.ErrFull}[true]
		if x.Node != a.Node || x.Call != a.Call || fmt.Sprint(x.Reply) != fmt.Sprint(api.Reply{Code: want}) {
			w.t.Fatalf("%+v is told %+v", a, x)
		}
		return
	}
	for place, d := range w.deeds {
		if place > 0 && place <= o.Nodes[x.Node].Commit && !d.told && !d.item.Nop && d.item.Call == x.Call && w.led[d.item.Term] == x.Node && fmt.Sprint(d.reply) == fmt.Sprint(x.Reply) {
			w.deeds[place].told = true
			w.counts["told"]++
			return
		}
	}
	w.t.Fatalf("behind %+v told %+v, which is not done", a, x)
}

// What comes of it, for drawn acts, behind each of them: in each term one leads at most; logs that have an item of the same term at a place are the same up to there; what is done at one node is done at all in the same order; and what somebody was told is done stays done.
func TestWhatComesOfIt(t *testing.T) {
	counts := map[string]int{}
	for seed := range 60 {
		d := &drawer{die: die(7000 + seed)}
		step := []func() []api.Act{d.calm, d.wild, d.late}[seed%3]
		l := d.script(d.lead(), 300, 350, step)
		w := newWitness(t, counts)
		for i, a := range l {
			w.sees(a, ran(t, l[:i+1]))
		}
	}
	enough(t, counts, 100, "done", "told")
	enough(t, counts, 3, "led")
}
