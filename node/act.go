package node

import (
	"rostrum/api"
	"rostrum/ledger"
	"rostrum/tape"
)

// Act of the node, but for a Sync.
func (n *Node) Act(a api.Act) {
	switch a.Kind {
	case api.Ask:
		n.ask(a.Call)
	case api.Tick:
		n.clock = min(n.clock+a.Pick, api.MaxTime)
	case api.Start:
		n.up = true
	}
	if n.up {
		n.actUp(a)
	}
}

// actUp: what only a node does that is up.
func (n *Node) actUp(a api.Act) {
	switch a.Kind {
	case api.Stand:
		n.stand()
	case api.Work:
		n.work()
	case api.Crash:
		n.crash(a.Pick)
	case api.Trim:
		n.trim()
	}
}

// Flush: at a Sync, the tape is synced, and what waits goes out.
func (n *Node) Flush() []api.Message {
	if !n.up {
		return nil
	}
	// No error can come of it: the tape was made by Append.
	n.tape, _ = tape.Sync(n.tape)
	l := n.out
	n.out = nil
	return l
}

func (n *Node) ask(c api.Call) {
	switch {
	case !n.up:
		n.tell(c, api.Reply{Code: api.ErrState})
	case n.role != leads:
		n.tell(c, api.Reply{Code: api.ErrLead})
	case !n.lay(api.Item{Call: c}):
		n.tell(c, api.Reply{Code: api.ErrFull})
	}
}

// lay an item of the node's term behind its log, if there is room.
func (n *Node) lay(x api.Item) bool {
	x.Term, x.Time = n.known.Term, n.now()
	place, term, _ := ledger.Last(n.known.Log)
	l, _, _, e := ledger.Match(n.known.Log, place, term, []api.Item{x})
	if e != api.OK || !n.write(line(place+1, x)) {
		return false
	}
	n.known.Log = l
	return true
}

// now: the time of what is laid: whatever clocks say, it does not fall.
func (n *Node) now() int {
	time := max(n.clock, n.machine.Store.Now)
	for _, x := range n.known.Log.Items {
		time = max(time, x.Time)
	}
	return time
}

// trim the log up to where items are done, behind a snap of what came of them.
func (n *Node) trim() {
	if n.done <= n.known.Log.Base {
		return
	}
	// No error can come of it, nor of the trimming: there is an item at that place.
	term, _ := ledger.Term(n.known.Log, n.done)
	s := api.Snap{Index: n.done, Term: term, Machine: n.machine}
	if n.write(api.Record{Kind: api.Load, Snap: s}) {
		n.known.Snap = s
		n.known.Log, _ = ledger.Trim(n.known.Log, n.done)
	}
}

// crash: only the clock goes on, and what is on the tape, with so many bytes that were not synced.
func (n *Node) crash(keep int) {
	// No error can come of it: each record was written behind what those ahead of it tell.
	torn, _ := tape.Crash(n.tape, keep)
	l, left, _ := tape.Recover(torn)
	d, _ := tape.Fold(l)
	*n = Node{id: n.id, book: n.book, clock: n.clock, tape: left}
	n.know(d)
}
