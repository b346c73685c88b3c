package node

import (
	"rostrum/api"
	"rostrum/ledger"
)

// stand: ask first who would vote for it. As the terms stay as they are till enough would, one that can't win disturbs nobody.
func (n *Node) stand() {
	if n.role == leads || n.known.Term >= api.MaxNumber {
		return
	}
	n.seek(asks, api.Message{Kind: api.Pre, Term: n.known.Term + 1})
}

// seek backers in a role, none but itself as yet, by a message that tells how far the log goes.
func (n *Node) seek(r role, m api.Message) {
	n.role = r
	n.backers = [api.Nodes]bool{}
	n.backers[n.id] = true
	// No error can come of it: the log may be.
	m.Last, m.LastTerm, _ = ledger.Last(n.known.Log)
	n.sendAll(m)
}

// back the node, in a role: have enough done so?
func (n *Node) backed(r role, from int) bool {
	if n.role != r {
		return false
	}
	n.backers[from] = true
	count := 0
	for _, yes := range n.backers {
		if yes {
			count++
		}
	}
	return count >= api.Quorum
}

// newer: is the log of who sent the message no older than the node's?
func (n *Node) newer(m api.Message) bool {
	yes, _ := ledger.Newer(n.known.Log, m.Last, m.LastTerm)
	return yes
}

func (n *Node) heedPre(m api.Message) {
	if m.Term > n.known.Term && n.newer(m) {
		n.send(m.From, api.Message{Kind: api.PreOk, Term: m.Term})
		return
	}
	n.refuse(m.From)
}

func (n *Node) heedPreOk(m api.Message) {
	// A term at MaxNumber has no later one: one that asks has no such term.
	if m.Term == n.known.Term+1 && n.backed(asks, m.From) && n.mark(m.Term, n.id) {
		n.seek(stands, api.Message{Kind: api.Vote, Term: m.Term})
	}
}

func (n *Node) heedVote(m api.Message) {
	if n.newer(m) && n.votesFor(m.From) {
		n.send(m.From, api.Message{Kind: api.Voted, Term: n.known.Term})
		return
	}
	n.refuse(m.From)
}

// votesFor somebody: it has done so already, or does so now.
func (n *Node) votesFor(who int) bool {
	return n.known.For == who || n.known.For == nobody && n.mark(n.known.Term, who)
}

func (n *Node) heedVoted(m api.Message) {
	if n.backed(stands, m.From) {
		n.lead()
	}
}

// lead: with an item of the own term, since none of an elder one is done without one.
func (n *Node) lead() {
	n.role = leads
	n.book.Led = append(n.book.Led, api.Lead{Term: n.known.Term, Node: n.id})
	last, _, _ := ledger.Last(n.known.Log)
	for i := range api.Nodes {
		n.next[i], n.has[i] = last+1, 0
	}
	n.lay(api.Item{Nop: true})
	n.work()
}
