package node

import (
	"slices"

	"rostrum/api"
	"rostrum/ledger"
	"rostrum/tape"
)

// Come: a message comes to the node.
func (n *Node) Come(m api.Message) {
	if !n.up {
		return
	}
	switch m.Kind {
	case api.Pre:
		n.heedPre(m)
		return
	case api.PreOk:
		n.heedPreOk(m)
		return
	}
	if m.Term > n.known.Term && !n.rise(m.Term) {
		return
	}
	if m.Term == n.known.Term {
		n.heed(m)
	} else if m.Kind != api.No {
		n.refuse(m.From)
	}
}

// rise to a later term, in which it follows, if there is room to write it.
func (n *Node) rise(term int) bool {
	if !n.mark(term, nobody) {
		return false
	}
	n.role = follows
	return true
}

// heed a message of the node's term.
func (n *Node) heed(m api.Message) {
	switch m.Kind {
	case api.Vote:
		n.heedVote(m)
	case api.Voted:
		n.heedVoted(m)
	case api.Heap:
		n.yield()
		n.heedHeap(m)
	case api.Ship:
		n.yield()
		n.heedShip(m)
	case api.Ack:
		if n.role == leads {
			n.heedAck(m)
		}
	}
}

// yield to one that leads in the same term.
func (n *Node) yield() {
	if n.role == stands {
		n.role = follows
	}
}

// work of one that leads: it serves the others.
func (n *Node) work() {
	if n.role != leads {
		return
	}
	for to := range api.Nodes {
		if to != n.id {
			n.serve(to)
		}
	}
}

// serve one of the others what it needs next.
func (n *Node) serve(to int) {
	place := n.next[to] - 1
	if place < n.known.Log.Base {
		n.send(to, api.Message{Kind: api.Ship, Term: n.known.Term, Snap: n.known.Snap})
		return
	}
	// No error can come of it: nobody has more that is done than the one that leads.
	term, _ := ledger.Term(n.known.Log, place)
	items, _ := ledger.Behind(n.known.Log, place, api.MaxSend)
	n.send(to, api.Message{Kind: api.Heap, Term: n.known.Term, Last: place, LastTerm: term, Items: items, Commit: n.done})
}

func (n *Node) heedHeap(m api.Message) {
	l, fits, first, e := ledger.Match(n.known.Log, m.Last, m.LastTerm, m.Items)
	if e != api.OK {
		return
	}
	if !fits {
		n.send(m.From, api.Message{Kind: api.Ack, Term: n.known.Term, Last: n.done})
		return
	}
	if !n.write(freshLines(m, first)...) {
		return
	}
	n.known.Log = l
	last := m.Last + len(m.Items)
	n.accept(m.From, last)
	n.doUpTo(min(last, m.Commit))
}

// freshLines of a Heap: of its items those from a place on; none, if that is 0.
func freshLines(m api.Message, first int) []api.Record {
	var l []api.Record
	for i, x := range m.Items {
		if place := m.Last + 1 + i; first > 0 && place >= first {
			l = append(l, line(place, x))
		}
	}
	return l
}

// accept: tell that the node has what is up to a place.
func (n *Node) accept(to, place int) {
	n.send(to, api.Message{Kind: api.Ack, Term: n.known.Term, Yes: true, Last: place})
}

func (n *Node) heedShip(m api.Message) {
	if m.Snap.Index > n.done && !n.load(m.Snap) {
		return
	}
	n.accept(m.From, m.Snap.Index)
}

// load a snap that is ahead of what is done, if there is room to write it.
func (n *Node) load(s api.Snap) bool {
	if !n.write(api.Record{Kind: api.Load, Snap: s}) {
		return false
	}
	d := n.known
	d.Snap = s
	// No error can come of it: log and snap may be.
	d.Log, _ = tape.Rest(d.Log, s)
	n.know(d)
	return true
}

func (n *Node) heedAck(m api.Message) {
	has := &n.has[m.From]
	if !m.Yes {
		n.next[m.From] = max(m.Last, *has) + 1
		return
	}
	*has = max(*has, m.Last)
	n.next[m.From] = max(n.next[m.From], m.Last+1)
	n.doUpTo(n.safe())
}

// safe: the last place whose item has the node's term, and that Quorum nodes have; 0, if there is none. What they have of elder terms may still be replaced, unless such an item is behind it.
func (n *Node) safe() int {
	has := n.has
	has[n.id], _, _ = ledger.Last(n.known.Log)
	slices.Sort(has[:])
	place := has[api.Nodes-api.Quorum]
	if term, e := ledger.Term(n.known.Log, place); e != api.OK || term != n.known.Term {
		return 0
	}
	return place
}
