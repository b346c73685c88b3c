// Package node: one of the nodes that keep one log: what it knows, writes, does and sends.
package node

import (
	"rostrum/api"
	"rostrum/client"
	"rostrum/fresh"
	"rostrum/ledger"
	"rostrum/tape"
)

// role of a node.
type role int

const (
	follows role = iota
	asks         // who would vote for it
	stands       // for votes
	leads
)

// nobody was voted for.
const nobody = -1

// Book: what was told, and who led, as it came about. Nodes that are under one script write into the same one.
type Book struct {
	Told []api.Told
	Led  []api.Lead
}

// Node of a number.
type Node struct {
	id      int
	book    *Book
	up      bool
	clock   int
	role    role
	tape    api.Tape
	known   api.Disk // what the whole tape tells
	done    int      // up to this place all items are
	machine api.Machine
	backers [api.Nodes]bool // of one that asks: who would vote for it; of one that stands: who has
	next    [api.Nodes]int  // of one that leads: the place that each needs next
	has     [api.Nodes]int  // and up to which place each has the same, as far as is known
	out     []api.Message   // what waits to go out
}

// Begin: a node, as it is at the beginning.
func Begin(id int, b *Book) *Node {
	n := &Node{id: id, book: b, up: true}
	n.know(tape.New())
	return n
}

// View of what it knows now.
func (n *Node) View() api.View {
	l := n.known.Log
	l.Items = fresh.List(l.Items)
	return api.View{Up: n.up, Term: n.known.Term, Leads: n.role == leads, Commit: n.done, Log: l, Machine: fresh.Machine(n.machine)}
}

// know what is on a disk: beyond its snap nothing is done yet.
func (n *Node) know(d api.Disk) {
	n.known, n.done, n.machine = d, d.Snap.Index, d.Snap.Machine
}

// write records: all of them, or, if there is no room, none.
func (n *Node) write(l ...api.Record) bool {
	t := n.tape
	for _, r := range l {
		var e api.Errno
		if t, e = tape.Append(t, r); e != api.OK {
			return false
		}
	}
	n.tape = t
	return true
}

// mark a term, and whom it votes for in it, if there is room.
func (n *Node) mark(term, vote int) bool {
	if !n.write(api.Record{Kind: api.Mark, Term: term, For: vote}) {
		return false
	}
	n.known.Term, n.known.For = term, vote
	return true
}

// line of an item at a place.
func line(place int, x api.Item) api.Record {
	return api.Record{Kind: api.Line, Index: place, Item: x}
}

// send a message: it waits till the next Sync, so that what was written ahead of it is safe before anybody hears of it.
func (n *Node) send(to int, m api.Message) {
	if len(n.out) >= api.MaxOut {
		return
	}
	m.From, m.To = n.id, to
	n.out = append(n.out, m)
}

// sendAll: a message to each of the others.
func (n *Node) sendAll(m api.Message) {
	for to := range api.Nodes {
		if to != n.id {
			n.send(to, m)
		}
	}
}

// refuse somebody: tell the own term, and nothing else.
func (n *Node) refuse(to int) {
	n.send(to, api.Message{Kind: api.No, Term: n.known.Term})
}

// doUpTo a place: the items that are not done yet, in order.
func (n *Node) doUpTo(place int) {
	// No error can come of it: what is done is never behind the log's Base or ahead of its last item.
	l, _ := ledger.Behind(n.known.Log, n.done, max(0, place-n.done))
	for _, x := range l {
		n.done++
		if !x.Nop {
			n.perform(x)
		}
	}
}

// perform the call of an item.
func (n *Node) perform(x api.Item) {
	// No error can come of it: machine and item may be.
	m, r, _ := client.Do(n.machine, x.Time, x.Call)
	n.machine = m
	// A node leads once in a term at most, and what has its term was laid by nobody else: so somebody waits for what comes of it.
	if n.role == leads && x.Term == n.known.Term {
		n.tell(x.Call, r)
	}
}

func (n *Node) tell(c api.Call, r api.Reply) {
	n.book.Told = append(n.book.Told, api.Told{Node: n.id, Call: c, Reply: r})
}
