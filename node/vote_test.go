package node_test

import (
	"testing"

	"rostrum/api"
)

// voter: node 1, in term 5, that has voted for nobody; its log has three items, the last of term 3.
func voter(t *testing.T) *rig {
	r := start(t, 1).come(heap(0, 1, 3, 0, 0, 0, nop(1), nop(3), nop(3)), no(2, 1, 5))
	r.n.Flush()
	return r.is(5, false, 0)
}

// P8.4, P8.2: who asks tells its term and one, and how far its log goes, to all others, by their numbers.
func TestStand(t *testing.T) {
	start(t, 0).do(api.Stand).sends(pre(0, 1, 1, 0, 0), pre(0, 2, 1, 0, 0)).is(0, false, 0)
	start(t, 1).do(api.Stand).sends(pre(1, 0, 1, 0, 0), pre(1, 2, 1, 0, 0)).sends()
	voter(t).do(api.Stand).sends(pre(1, 0, 6, 3, 3), pre(1, 2, 6, 3, 3)).is(5, false, 0)
	start(t, 2).come(ship(0, 2, 4, snap(9, 3))).do(api.Stand).sends(ack(2, 0, 4, true, 9), pre(2, 0, 5, 9, 3), pre(2, 1, 5, 9, 3))
	// One that asks may ask again, and one that stands; one that leads does not.
	start(t, 0).do(api.Stand, api.Stand).sends(pre(0, 1, 1, 0, 0), pre(0, 2, 1, 0, 0), pre(0, 1, 1, 0, 0), pre(0, 2, 1, 0, 0))
	leading(t).do(api.Stand).sends().is(1, true, 0)
}

// P8.4: no term is above MaxNumber.
func TestLastTerm(t *testing.T) {
	start(t, 1).come(no(0, 1, top-1)).do(api.Stand).sends(pre(1, 0, top, 0, 0), pre(1, 2, top, 0, 0)).
		come(preOk(2, 1, top)).sends(vote(1, 0, top, 0, 0), vote(1, 2, top, 0, 0)).is(top, false, 0).
		do(api.Stand).sends().come(preOk(0, 1, top+1), preOk(2, 1, top+1)).sends().is(top, false, 0).
		come(voted(0, 1, top)).sends(heap(1, 0, top, 0, 0, 0, nop(top)), heap(1, 2, top, 0, 0, 0, nop(top))).is(top, true, 0)
	start(t, 1).come(no(0, 1, top)).do(api.Stand).sends().come(preOk(2, 1, top), preOk(2, 1, top+1)).sends().is(top, false, 0)
}

// P8.4: a Pre is answered by its Term above the node's, and by the log; it changes nothing.
func TestPre(t *testing.T) {
	for _, m := range []api.Message{pre(2, 1, 6, 3, 3), pre(2, 1, 6, 4, 3), pre(2, 1, 7, 1, 4), pre(2, 1, top, 0, 4), pre(2, 1, 6, top, top)} {
		voter(t).come(m).sends(preOk(1, 2, m.Term)).is(5, false, 0)
	}
	for _, m := range []api.Message{pre(2, 1, 5, 3, 3), pre(2, 1, 4, 9, 9), pre(2, 1, 1, 3, 3), pre(2, 1, 6, 2, 3), pre(2, 1, 6, 9, 2), pre(2, 1, top, 0, 0)} {
		voter(t).come(m).sends(no(1, 2, 5)).is(5, false, 0)
	}
	// Whatever the node is: one that leads, that has voted, that asks.
	leading(t).come(pre(2, 1, 2, 1, 1), pre(2, 1, 1, 1, 1)).sends(preOk(1, 2, 2), no(1, 2, 1)).is(1, true, 0)
	r := voter(t).come(vote(0, 1, 5, 3, 3), pre(2, 1, 6, 3, 3)).sends(voted(1, 0, 5), preOk(1, 2, 6))
	r.come(vote(0, 1, 5, 3, 3)).sends(voted(1, 0, 5))
	r = voter(t).do(api.Stand).come(pre(2, 1, 6, 3, 3)).sends(pre(1, 0, 6, 3, 3), pre(1, 2, 6, 3, 3), preOk(1, 2, 6))
	r.come(preOk(2, 1, 6)).is(6, false, 0)
}

// P8.4: a PreOk of an elder, and of a later term; one that does not ask.
func TestPreOk(t *testing.T) {
	asks := func() *rig {
		r := voter(t).do(api.Stand)
		r.n.Flush()
		return r
	}
	for _, term := range []int{0, 1, 4, 5, 7, top} {
		asks().come(preOk(0, 1, term), preOk(2, 1, term)).sends().is(5, false, 0)
	}
	votes := []api.Message{vote(1, 0, 6, 3, 3), vote(1, 2, 6, 3, 3)}
	asks().come(preOk(2, 1, 6)).sends(votes...).is(6, false, 0)
	asks().come(preOk(0, 1, 4), preOk(0, 1, 6)).sends(votes...).is(6, false, 0)
	asks().come(preOk(2, 1, 6), preOk(0, 1, 6), preOk(0, 1, 7)).sends(votes...).is(6, false, 0) // it does not ask any more
	voter(t).come(preOk(0, 1, 6), preOk(2, 1, 6)).sends().is(5, false, 0)
	asks().come(no(0, 1, 6), preOk(2, 1, 7)).sends().is(6, false, 0) // it follows, in a later term
	asks().come(no(0, 1, 5), no(0, 1, 4), preOk(2, 1, 6)).sends(votes...)
	asks().crash(99).do(api.Start).come(preOk(2, 1, 6)).sends().is(5, false, 0)
	// It has voted for itself, and for nobody else.
	asks().come(preOk(2, 1, 6), vote(0, 1, 6, 9, 5)).sends(append(votes, no(1, 0, 6))...)
	// A Heap of its own term does not keep one from asking.
	asks().come(heap(2, 1, 5, 3, 3, 0), preOk(0, 1, 6)).sends(ack(1, 2, 5, true, 3), votes[0], votes[1])
}

// P8.4: a Vote of an elder, the same and a later term; of an older log; from the one that has the vote, and from another one.
func TestVote(t *testing.T) {
	voter(t).come(vote(2, 1, 5, 3, 3)).sends(voted(1, 2, 5)).is(5, false, 0)
	voter(t).come(vote(2, 1, 4, 9, 4)).sends(no(1, 2, 5)).is(5, false, 0)
	voter(t).come(vote(2, 1, 7, 3, 3)).sends(voted(1, 2, 7)).is(7, false, 0)
	voter(t).come(vote(2, 1, 7, 2, 3)).sends(no(1, 2, 7)).is(7, false, 0)
	voter(t).come(vote(2, 1, 5, 2, 3), vote(2, 1, 5, 9, 2)).sends(no(1, 2, 5), no(1, 2, 5))
	voter(t).come(vote(2, 1, 5, 2, 3), vote(0, 1, 5, 3, 3)).sends(no(1, 2, 5), voted(1, 0, 5)) // the vote is not given by a No
	voter(t).come(vote(2, 1, 5, 1, 4), vote(2, 1, 5, 1, 4), vote(0, 1, 5, 9, 9), vote(2, 1, 5, 3, 3)).
		sends(voted(1, 2, 5), voted(1, 2, 5), no(1, 0, 5), voted(1, 2, 5))
	voter(t).come(vote(2, 1, 5, 3, 3), vote(2, 1, 5, 2, 3)).sends(voted(1, 2, 5), no(1, 2, 5)) // the log is asked first
	voter(t).come(vote(2, 1, 5, 3, 3), vote(0, 1, 6, 3, 3), vote(2, 1, 6, 3, 3)).sends(voted(1, 2, 5), voted(1, 0, 6), no(1, 2, 6))
	// A vote is a Mark: behind a crash it is there, or it is not.
	r := voter(t).come(vote(2, 1, 5, 3, 3)).crash(7).do(api.Start)
	r.come(vote(0, 1, 5, 3, 3)).sends(voted(1, 0, 5))
	r = voter(t).come(vote(2, 1, 5, 3, 3)).crash(8).do(api.Start)
	r.come(vote(0, 1, 5, 3, 3), vote(2, 1, 5, 3, 3)).sends(no(1, 0, 5), voted(1, 2, 5))
	// One that has the vote already costs no Mark.
	voter(t).come(vote(2, 1, 5, 3, 3), vote(2, 1, 5, 3, 3), no(2, 1, 9)).crash(16).is(9, false, 0)
}

// P8.4, P8.5: one Voted is enough with its own; one that does not stand needs none.
func TestVoted(t *testing.T) {
	stands := func() *rig {
		r := voter(t).do(api.Stand).come(preOk(2, 1, 6))
		r.n.Flush()
		return r.is(6, false, 0)
	}
	heaps := []api.Message{heap(1, 0, 6, 3, 3, 0, nop(6)), heap(1, 2, 6, 3, 3, 0, nop(6))}
	r := stands().come(voted(0, 1, 6)).sends(heaps...).is(6, true, 0).log(0, 0, nop(1), nop(3), nop(3), nop(6))
	if l := r.book.Led; len(l) != 1 || l[0] != (api.Lead{Term: 6, Node: 1}) {
		t.Errorf("led %v", l)
	}
	stands().come(voted(2, 1, 6), voted(0, 1, 6), voted(2, 1, 6)).sends(heaps...).is(6, true, 0)
	stands().come(voted(2, 1, 5)).sends(no(1, 2, 6)).is(6, false, 0)
	stands().come(voted(2, 1, 7)).sends().is(7, false, 0)
	stands().come(voted(2, 1, 7), voted(0, 1, 7)).sends().is(7, false, 0)
	stands().do(api.Stand).come(voted(2, 1, 6)).is(6, false, 0)
	voter(t).come(voted(2, 1, 5), voted(0, 1, 5)).sends().is(5, false, 0)
	voter(t).do(api.Stand).come(voted(2, 1, 5), voted(0, 1, 5)).is(5, false, 0)
	// One that stands follows who leads in its term.
	stands().come(heap(2, 1, 6, 3, 3, 0, nop(6)), voted(0, 1, 6)).sends(ack(1, 2, 6, true, 4)).is(6, false, 0)
	stands().come(ship(2, 1, 6, snap(9, 6)), voted(0, 1, 6)).sends(ack(1, 2, 6, true, 9)).is(6, false, 9)
	stands().come(heap(2, 1, 5, 3, 3, 0, nop(5)), voted(0, 1, 6)).is(6, true, 0) // but nobody of an elder one
}

// P8.3: a message of an elder term is answered by a No, but for a No; of a later one it is heeded in that term, and the node follows.
func TestTerms(t *testing.T) {
	elder := []api.Message{vote(2, 1, 4, 9, 4), voted(2, 1, 4), heap(2, 1, 4, 3, 3, 3, nop(4)), ack(2, 1, 4, true, 3), ship(2, 1, 4, snap(9, 4))}
	for _, m := range elder {
		voter(t).come(m).sends(no(1, 2, 5)).is(5, false, 0).log(0, 0, nop(1), nop(3), nop(3))
	}
	voter(t).come(no(2, 1, 4), no(2, 1, 5)).sends().is(5, false, 0)
	leads := func() *rig {
		r := voter(t).do(api.Stand).come(preOk(0, 1, 6), voted(0, 1, 6))
		r.n.Flush()
		return r.is(6, true, 0)
	}
	leads().come(no(2, 1, 6), no(2, 1, 5)).sends().is(6, true, 0)
	leads().come(ack(2, 1, 5, true, 4)).sends(no(1, 2, 6)).is(6, true, 0)
	for _, c := range []struct{ m, answer api.Message }{
		{vote(2, 1, 7, 4, 6), voted(1, 2, 7)}, {vote(2, 1, 7, 3, 6), no(1, 2, 7)},
		{heap(2, 1, 7, 4, 6, 0), ack(1, 2, 7, true, 4)}, {ship(2, 1, 7, snap(0, 0)), ack(1, 2, 7, true, 0)},
	} {
		leads().come(c.m).sends(c.answer).is(7, false, 0)
	}
	for _, m := range []api.Message{no(2, 1, 7), voted(2, 1, 7), ack(2, 1, 7, true, 4)} {
		leads().come(m).sends().is(7, false, 0)
		leads().come(m).do(api.Work).sends()
	}
	// A Mark of 8 bytes, with no vote: behind a crash it is there, or it is not.
	voter(t).come(no(2, 1, 9)).crash(7).is(5, false, 0)
	voter(t).come(no(2, 1, 9)).crash(8).is(9, false, 0)
	voter(t).come(vote(0, 1, 5, 3, 3), no(2, 1, 9)).crash(16).do(api.Start).come(vote(2, 1, 9, 3, 3)).sends(voted(1, 2, 9))
}
