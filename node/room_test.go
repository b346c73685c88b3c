package node_test

import (
	"testing"

	"rostrum/api"
)

// P8.2, P8.3: no room for the Mark of a later term: that is all.
func TestNoRoomForALaterTerm(t *testing.T) {
	for _, room := range []int{0, 7} {
		r, at := crammed(t, room)
		for _, m := range []api.Message{no(2, 1, 2), vote(2, 1, 2, at, 1), voted(2, 1, 2), heap(2, 1, 2, at, 1, 0), ship(2, 1, 2, snap(1, 1)), ack(2, 1, 2, true, 0)} {
			r.come(m).sends().is(1, false, at)
		}
		r.come(heap(0, 1, 1, at, 1, 0)).sends(ack(1, 0, 1, true, at)) // what needs no room happens
	}
	r, at := crammed(t, 8)
	r.come(heap(2, 1, 2, at, 1, 0)).sends(ack(1, 2, 2, true, at)).is(2, false, at)
}

// P8.3: one that leads, and has no room for a later term, leads on.
func TestNoRoomLeadsOn(t *testing.T) {
	r, at := crammed(t, 15) // for its own Mark, and no other one
	r.do(api.Stand).come(preOk(0, 1, 2), voted(0, 1, 2)).is(2, true, at)
	r.n.Flush()
	r.come(no(2, 1, 3), heap(2, 1, 3, at, 1, 0)).sends().is(2, true, at)
	r.do(api.Work).sends(heap(1, 0, 2, at, 1, at), heap(1, 2, 2, at, 1, at)) // nor was there room for its Nop
}

// P8.4: no room for the Mark of a vote: a No, and the vote is nobody's.
func TestNoRoomForAVote(t *testing.T) {
	r, at := crammed(t, 7)
	r.come(vote(2, 1, 1, at, 1)).sends(no(1, 2, 1)).is(1, false, at)
	r, at = crammed(t, 8)
	r.come(vote(2, 1, 1, at, 1), vote(2, 1, 1, at, 1), vote(0, 1, 1, at, 1)).sends(voted(1, 2, 1), voted(1, 2, 1), no(1, 0, 1))
	r, at = crammed(t, 15) // of a later term there is room for the term alone
	r.come(vote(2, 1, 2, at, 1), vote(0, 1, 2, at, 1)).sends(no(1, 2, 2), no(1, 0, 2)).is(2, false, at)
	r, at = crammed(t, 16)
	r.come(vote(2, 1, 2, at, 1), vote(0, 1, 2, at, 1)).sends(voted(1, 2, 2), no(1, 0, 2)).is(2, false, at)
}

// P8.4: no room for the Mark of one that would stand: it asks on.
func TestNoRoomToStand(t *testing.T) {
	r, at := crammed(t, 7)
	r.do(api.Stand).sends(pre(1, 0, 2, at, 1), pre(1, 2, 2, at, 1))
	r.come(preOk(0, 1, 2), preOk(2, 1, 2), voted(0, 1, 1), voted(2, 1, 1)).sends().is(1, false, at)
	r, at = crammed(t, 8)
	r.do(api.Stand).come(preOk(0, 1, 2)).sends(pre(1, 0, 2, at, 1), pre(1, 2, 2, at, 1), vote(1, 0, 2, at, 1), vote(1, 2, 2, at, 1)).is(2, false, at)
}

// P8.5, P8.7: no room for the Line of a Nop, or of a call: it can't be laid, and the log is as it was.
func TestNoRoomForALine(t *testing.T) {
	leads := func(room int) (*rig, int) {
		r, at := crammed(t, 8+room) // a Mark ahead of it
		r.do(api.Stand).come(preOk(0, 1, 2), voted(0, 1, 2)).is(2, true, at)
		r.n.Flush()
		return r, at
	}
	r, at := leads(23)
	r.log(at, 1).do(api.Work).sends(heap(1, 0, 2, at, 1, at), heap(1, 2, 2, at, 1, at))
	r, at = leads(24)
	r.log(at, 1, nop(2)).do(api.Work).sends(heap(1, 0, 2, at, 1, at, nop(2)), heap(1, 2, 2, at, 1, at, nop(2)))
	r, at = leads(24 + 31) // a Nop takes 24 bytes, somebody who would be a client 32
	r.ask(api.Call{}).told("1(0.0)6,0").log(at, 1, nop(2))
	r, at = leads(24 + 32)
	r.ask(api.Call{}).ask(api.Call{}).told("1(0.0)6,0").log(at, 1, nop(2), item(2, api.Call{}))
	r.come(ack(2, 1, 2, true, at+2)).is(2, true, at+2).told("1(0.0)6,0 1(0.0)0,1")
}

// P8.6: no room for all the Lines of a Heap: none is written, and nothing is sent or done.
func TestNoRoomForAHeap(t *testing.T) {
	for _, room := range []int{0, 23, 24, 47, 48, 71} {
		r, at := crammed(t, room)
		r.come(heap(0, 1, 1, at, 1, at+3, nops(3, 1)...)).sends().is(1, false, at).log(at, 1).crash(99).log(at, 1)
	}
	r, at := crammed(t, 72)
	r.come(heap(0, 1, 1, at, 1, at+3, nops(3, 1)...)).sends(ack(1, 0, 1, true, at+3)).is(1, false, at+3).log(at, 1, nops(3, 1)...)
	// Those that are there already need none.
	r.come(heap(0, 1, 1, at, 1, at+3, nops(3, 1)...)).sends(ack(1, 0, 1, true, at+3))
	r.come(heap(0, 1, 1, at, 1, at+3, nops(4, 1)...)).sends().log(at, 1, nops(3, 1)...)
	r, at = crammed(t, 71) // as many as there was room for behind that are not refused
	r.come(heap(0, 1, 1, at, 1, at+3, nops(3, 1)...), heap(0, 1, 1, at, 1, at+2, nops(2, 1)...)).sends(ack(1, 0, 1, true, at+2)).is(1, false, at+2)
}

// P8.6, P8.9: no room for a Load, of a Ship or of a Trim: nothing comes of it.
func TestNoRoomForALoad(t *testing.T) {
	r, at := crammed(t, 27)
	r.come(ship(0, 1, 1, snap(at+9, 1))).sends().is(1, false, at).log(at, 1)
	r.come(ship(0, 1, 1, snap(at, 1))).sends(ack(1, 0, 1, true, at)) // a snap that is not ahead needs none
	r, at = crammed(t, 28)
	r.come(ship(0, 1, 1, snap(at+9, 1))).sends(ack(1, 0, 1, true, at+9)).is(1, false, at+9).log(at+9, 1)

	// Behind a snap of 28 bytes, and a Nop of 24, room for one Load of 28, or almost: with nothing done behind the log's Base nothing is written.
	for _, less := range []int{0, 1} {
		r, at := crammed(t, 28+24+28-less)
		r.come(ship(0, 1, 1, snap(at+1, 1))).do(api.Trim, api.Trim).is(1, false, at+1).log(at+1, 1)
		r.come(heap(0, 1, 1, at+1, 1, at+1, nop(1))).do(api.Trim).is(1, false, at+1).log(at+1, 1, nop(1))
		r.come(heap(0, 1, 1, at+2, 1, at+2)).do(api.Trim).is(1, false, at+2)
		if less == 0 {
			r.log(at+2, 1)
		} else {
			r.log(at+1, 1, nop(1))
		}
	}
}

// P8.2: of what a node sends fewer than MaxOut messages wait, the others are lost; a Sync makes room.
func TestMostThatWait(t *testing.T) {
	r := leading(t)
	var want []api.Message
	for i := range 310 {
		r.come(pre(2*(i%2), 1, 2+i, 9, 9))
		want = append(want, preOk(1, 2*(i%2), 2+i))
	}
	r.sends(want[:api.MaxOut]...).sends()
	for range 200 {
		r.do(api.Work)
	}
	if l := r.n.Flush(); len(l) != api.MaxOut {
		t.Errorf("%d messages", len(l))
	}
	r.come(pre(2, 1, 1, 0, 0))
	for range 200 {
		r.do(api.Work)
	}
	if l := r.n.Flush(); len(l) != api.MaxOut || l[api.MaxOut-1].To != 0 {
		t.Errorf("%d messages: %+v", len(l), l[len(l)-1])
	}
	r.do(api.Work).crash(0).do(api.Start).sends() // behind a crash none waits
}

// P8.3, P8.9: one that is down hears of nothing, and does nothing but tell so.
func TestDown(t *testing.T) {
	r := voter(t).do(api.Stand).crash(0)
	down := r.n.View()
	if down.Up {
		t.Errorf("it is up")
	}
	r.come(vote(2, 1, 6, 9, 9), no(2, 1, 9), pre(2, 1, 9, 9, 9), preOk(2, 1, 6), heap(2, 1, 5, 3, 3, 3), ship(2, 1, 5, snap(9, 4))).do(api.Stand, api.Work, api.Trim).crash(9).sends()
	r.is(5, false, 0).log(0, 0, nop(1), nop(3), nop(3)).ask(add(1)).told("1(1.1)13,0")
	if r.do(api.Start); !r.n.View().Up {
		t.Errorf("it is down")
	}
	r.sends().come(preOk(2, 1, 6)).sends().is(5, false, 0)
	r.come(vote(2, 1, 6, 9, 9)).sends(voted(1, 2, 6))
}

// A view shares no list with the node: what is done to it is not seen by the node.
func TestViewsAreApart(t *testing.T) {
	r := leading(t).ask(api.Call{}).ask(add(1)).come(ack(2, 1, 1, true, 3))
	v := r.n.View()
	clear(v.Log.Items)
	clear(v.Machine.Clients)
	clear(v.Machine.Store.Entries)
	r.log(0, 0, nop(1), item(1, api.Call{}), item(1, add(1)))
	if m := r.n.View().Machine; m.Clients[0].Seq != 1 || m.Store.Entries[0].Value.Count != 1 {
		t.Errorf("the machine is %+v", m)
	}
}
