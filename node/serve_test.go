package node_test

import (
	"testing"

	"rostrum/api"
)

// P8.5, P8.6: it leads: Heaps from behind its last one on, with its Nop; at Work the same again, as long as it hears of nothing.
func TestLead(t *testing.T) {
	r := start(t, 1).come(heap(0, 1, 1, 0, 0, 2, nop(1), item(1, api.Call{}), item(1, add(1)))).sends(ack(1, 0, 1, true, 3)).is(1, false, 2)
	r.do(api.Stand).come(preOk(2, 1, 2), voted(2, 1, 2))
	r.n.Flush()
	r.do(api.Work).sends(heap(1, 0, 2, 3, 1, 2, nop(2)), heap(1, 2, 2, 3, 1, 2, nop(2)))
	r.ask(add(2)).sends()
	two := []api.Item{nop(2), item(2, add(2))}
	r.do(api.Work, api.Work).sends(heap(1, 0, 2, 3, 1, 2, two...), heap(1, 2, 2, 3, 1, 2, two...), heap(1, 0, 2, 3, 1, 2, two...), heap(1, 2, 2, 3, 1, 2, two...))
	start(t, 1).do(api.Work).sends()
	start(t, 1).do(api.Stand).come(preOk(2, 1, 1)).do(api.Work).sends(pre(1, 0, 1, 0, 0), pre(1, 2, 1, 0, 0), vote(1, 0, 1, 0, 0), vote(1, 2, 1, 0, 0))
}

// P8.6: MaxSend items at most.
func TestMostItemsOfAHeap(t *testing.T) {
	for n := range 12 {
		r := leading(t)
		for i := range n {
			r.ask(add(1 + i))
		}
		all := []api.Item{nop(1)}
		for i := range n {
			all = append(all, item(1, add(1+i)))
		}
		r.do(api.Work).sends(heap(1, 0, 1, 0, 0, 0, all[:min(8, n+1)]...), heap(1, 2, 1, 0, 0, 0, all[:min(8, n+1)]...)).log(0, 0, all...)
	}
}

// P8.6: a Heap that fits, with nothing, with items that are there, with some that are not, and with some in place of others.
func TestHeap(t *testing.T) {
	has := []api.Item{nop(1), nop(3), nop(3)}
	for _, c := range []struct {
		m    api.Message
		last int
		done int
		log  []api.Item
	}{
		{heap(2, 1, 5, 0, 0, 0), 0, 0, has}, {heap(2, 1, 5, 0, 0, 9), 0, 0, has}, {heap(2, 1, 5, 3, 3, 9), 3, 3, has}, {heap(2, 1, 5, 2, 3, 9), 2, 2, has},
		{heap(2, 1, 5, 0, 0, 9, has[:2]...), 2, 2, has}, {heap(2, 1, 5, 1, 1, 1, has[1:]...), 3, 1, has}, {heap(2, 1, 5, 1, 1, 0, has[1]), 2, 0, has},
		{heap(2, 1, 5, 3, 3, 3, nop(5), nop(5)), 5, 3, append(has[:3:3], nop(5), nop(5))}, {heap(2, 1, 5, 3, 3, 4, nop(5), nop(5)), 5, 4, append(has[:3:3], nop(5), nop(5))},
		{heap(2, 1, 5, 3, 3, 5, nop(5), nop(5)), 5, 5, append(has[:3:3], nop(5), nop(5))}, {heap(2, 1, 5, 3, 3, 9, nop(5), nop(5)), 5, 5, append(has[:3:3], nop(5), nop(5))},
		{heap(2, 1, 5, 1, 1, 9, nop(4)), 2, 2, []api.Item{nop(1), nop(4)}}, {heap(2, 1, 5, 1, 1, 9, nop(3), nop(4), nop(4)), 4, 4, []api.Item{nop(1), nop(3), nop(4), nop(4)}},
		{heap(2, 1, 5, 0, 0, 0, nop(2)), 1, 0, []api.Item{nop(2)}},
	} {
		voter(t).come(c.m).sends(ack(1, 2, 5, true, c.last)).is(5, false, c.done).log(0, 0, c.log...)
	}
	// What was written is there behind a crash, item by item; of one that is there already nothing is written.
	r := voter(t).come(heap(2, 1, 5, 1, 1, 9, nop(3), nop(4), nop(4))).crash(47)
	r.is(5, false, 0).log(0, 0, nop(1), nop(3), nop(4))
	voter(t).come(heap(2, 1, 5, 1, 1, 9, nop(3), nop(4), nop(4))).crash(48).log(0, 0, nop(1), nop(3), nop(4), nop(4))
	voter(t).come(heap(2, 1, 5, 0, 0, 9, has...), heap(2, 1, 5, 3, 3, 9, nop(5))).crash(24).log(0, 0, nop(1), nop(3), nop(3), nop(5))
}

// P8.6: a Heap that does not fit, one that is an error, and one of a place that is trimmed already.
func TestHeapThatDoesNotFit(t *testing.T) {
	has := []api.Item{nop(1), nop(3), nop(3)}
	for _, m := range []api.Message{heap(2, 1, 5, 4, 3, 9), heap(2, 1, 5, 4, 3, 9, nop(4)), heap(2, 1, 5, 3, 4, 9, nop(4)), heap(2, 1, 5, 1, 3, 9, nop(3))} {
		voter(t).come(m).sends(ack(1, 2, 5, false, 0)).is(5, false, 0).log(0, 0, has...)
		voter(t).come(heap(2, 1, 5, 2, 3, 9), m).sends(ack(1, 2, 5, true, 2), ack(1, 2, 5, false, 2)).is(5, false, 2)
	}
	late := nop(3)
	late.Time = 9
	r := start(t, 1).come(heap(2, 1, 5, 0, 0, 0, late)).sends(ack(1, 2, 5, true, 1))
	r.come(heap(2, 1, 5, 1, 3, 9, nop(5)), heap(2, 1, 5, 1, 3, 9, nop(5), nop(4)), heap(2, 1, 5, 1, 0, 9)).sends().is(5, false, 0).log(0, 0, late)
	full := start(t, 1)
	for i := 0; i < api.MaxLog; i += 8 {
		full.come(heap(2, 1, 5, i, min(i, 1), 0, nops(8, 1)...))
	}
	full.n.Flush()
	full.come(heap(2, 1, 5, 200, 1, 0, nop(1))).sends().is(5, false, 0).log(0, 0, nops(200, 1)...)
	full.come(heap(2, 1, 5, 200, 1, 0)).sends(ack(1, 2, 5, true, 200))
	full.come(heap(2, 1, 5, 200, 1, 200)).is(5, false, 200).do(api.Trim).come(heap(2, 1, 5, 200, 1, 0, nop(1))).log(200, 1, nop(1))
	trimmed := voter(t).come(ship(2, 1, 5, snap(6, 4)), heap(2, 1, 5, 6, 4, 9, nop(5)))
	trimmed.n.Flush()
	trimmed.come(heap(2, 1, 5, 2, 1, 3, nops(2, 1)...)).sends(ack(1, 2, 5, true, 4)).is(5, false, 7).log(6, 4, nop(5))
	trimmed.come(heap(2, 1, 5, 0, 0, 0)).sends(ack(1, 2, 5, true, 0)).is(5, false, 7)
	trimmed.come(heap(2, 1, 5, 5, 4, 9, nop(4), nop(5), nop(5))).sends(ack(1, 2, 5, true, 8)).is(5, false, 8).log(6, 4, nop(5), nop(5))
	trimmed.come(heap(2, 1, 5, 6, 3, 9, nop(5))).sends(ack(1, 2, 5, false, 8))
}

// P8.6: a Ship of a snap that is ahead of what is done, and of one that is not; what of the log fits it stays.
func TestShip(t *testing.T) {
	voter(t).come(ship(2, 1, 5, snap(9, 4))).sends(ack(1, 2, 5, true, 9)).is(5, false, 9).log(9, 4)
	voter(t).come(ship(2, 1, 5, snap(2, 3))).sends(ack(1, 2, 5, true, 2)).is(5, false, 2).log(2, 3, nop(3))
	voter(t).come(ship(2, 1, 5, snap(2, 2))).sends(ack(1, 2, 5, true, 2)).is(5, false, 2).log(2, 2)
	r := voter(t).come(heap(2, 1, 5, 3, 3, 3)).sends(ack(1, 2, 5, true, 3))
	r.come(ship(2, 1, 5, snap(3, 3)), ship(2, 1, 5, snap(1, 1))).sends(ack(1, 2, 5, true, 3), ack(1, 2, 5, true, 1)).is(5, false, 3).log(0, 0, nop(1), nop(3), nop(3))
	r.come(ship(2, 1, 5, snap(4, 3))).sends(ack(1, 2, 5, true, 4)).is(5, false, 4).log(4, 3)
	// Its machine is the snap's, and it is that behind a crash, if it was synced.
	s := snap(9, 4)
	s.Machine.Next = 7
	r = voter(t).come(ship(2, 1, 5, s))
	if m := r.n.View().Machine; m.Next != 7 {
		t.Errorf("the machine is %+v", m)
	}
	if r.crash(27); r.n.View().Machine.Next != 1 {
		t.Errorf("the snap is there")
	}
	r.is(5, false, 0).log(0, 0, nop(1), nop(3), nop(3))
	if r = voter(t).come(ship(2, 1, 5, s)).crash(28); r.n.View().Machine.Next != 7 {
		t.Errorf("the snap is not there")
	}
	r.is(5, false, 9).log(9, 4)
	// What it serves itself, when it leads, is that snap.
	r.do(api.Start, api.Stand).come(preOk(0, 1, 6), voted(0, 1, 6), ack(2, 1, 6, false, 3))
	r.n.Flush()
	r.do(api.Work).sends(heap(1, 0, 6, 9, 4, 9, nop(6)), ship(1, 2, 6, s))
}

// P8.6: an Ack, that is Yes and that is not: what each has, and needs next.
func TestAck(t *testing.T) {
	twelve := func() *rig {
		r := leading(t)
		for i := range 11 {
			r.ask(add(1 + i))
		}
		return r
	}
	items := func(from, to int) []api.Item {
		var l []api.Item
		for i := from; i <= to; i++ {
			if i == 1 {
				l = append(l, nop(1))
			} else {
				l = append(l, item(1, add(i-1)))
			}
		}
		return l
	}
	for _, c := range []struct {
		acks       []api.Message
		last, done int
	}{
		{[]api.Message{ack(2, 1, 1, true, 0)}, 0, 0}, {[]api.Message{ack(2, 1, 1, true, 5)}, 5, 5},
		{[]api.Message{ack(2, 1, 1, true, 5), ack(2, 1, 1, true, 3)}, 5, 5}, {[]api.Message{ack(2, 1, 1, true, 3), ack(2, 1, 1, true, 5)}, 5, 5},
		{[]api.Message{ack(2, 1, 1, false, 0)}, 0, 0}, {[]api.Message{ack(2, 1, 1, true, 5), ack(2, 1, 1, false, 2)}, 5, 5},
		{[]api.Message{ack(2, 1, 1, true, 5), ack(2, 1, 1, false, 7)}, 7, 5}, {[]api.Message{ack(2, 1, 1, false, 7)}, 7, 0},
		{[]api.Message{ack(2, 1, 1, false, 7), ack(2, 1, 1, true, 5)}, 7, 5}, {[]api.Message{ack(2, 1, 1, false, 7), ack(2, 1, 1, false, 2)}, 2, 0},
		{[]api.Message{ack(2, 1, 1, true, 12)}, 12, 12}, {[]api.Message{ack(2, 1, 1, true, 4), ack(0, 1, 1, true, 4), ack(2, 1, 1, true, 9)}, 9, 9},
	} {
		of := min(c.last, 1)
		r := twelve().come(c.acks...).is(1, true, c.done)
		zero := heap(1, 0, 1, 0, 0, c.done, items(1, 8)...)
		if len(c.acks) == 3 {
			zero = heap(1, 0, 1, 4, 1, c.done, items(5, 12)...)
		}
		r.do(api.Work).sends(zero, heap(1, 2, 1, c.last, of, c.done, items(c.last+1, min(12, c.last+8))...))
	}
	// It does nothing at one that does not lead.
	start(t, 1).come(heap(0, 1, 1, 0, 0, 0, items(1, 3)...), ack(2, 1, 1, true, 3), ack(0, 1, 1, true, 3)).sends(ack(1, 0, 1, true, 3)).is(1, false, 0)
	// The next one of who leads anew is behind its last one, whatever it was before.
	r := twelve().come(ack(2, 1, 1, true, 5), no(0, 1, 2)).do(api.Stand).come(preOk(0, 1, 3), voted(0, 1, 3))
	r.n.Flush()
	r.do(api.Work).sends(heap(1, 0, 3, 12, 1, 5, nop(3)), heap(1, 2, 3, 12, 1, 5, nop(3)))
	r.come(ack(2, 1, 3, false, 2)).do(api.Work).sends(heap(1, 0, 3, 12, 1, 5, nop(3)), heap(1, 2, 3, 2, 1, 5, items(3, 10)...)) // nor does what it had count
}

// P8.6: an item of an elder term, that most have, is done only with one of the leader's own.
func TestItemsOfElderTerms(t *testing.T) {
	r := voter(t).do(api.Stand).come(preOk(0, 1, 6), voted(0, 1, 6)).is(6, true, 0).log(0, 0, nop(1), nop(3), nop(3), nop(6))
	r.come(ack(0, 1, 6, true, 3), ack(2, 1, 6, true, 3)).is(6, true, 0)
	r.come(ack(2, 1, 6, true, 4)).is(6, true, 4)
}

// P8.7, P8.8: what is asked is told when it is done, in order, once.
func TestTold(t *testing.T) {
	r := leading(t).ask(api.Call{}).ask(add(1)).ask(add(1)).ask(add(3)).ask(add(2)).told("")
	r.come(ack(2, 1, 1, true, 1)).told("").is(1, true, 1)
	r.come(ack(2, 1, 1, true, 2)).told("1(0.0)0,1")
	r.come(ack(0, 1, 1, true, 6), ack(2, 1, 1, true, 6)).told("1(0.0)0,1 1(1.1)0,1 1(1.1)0,1 1(1.3)10,0 1(1.2)0,2")
	// One that ceases to lead, or crashes, tells nobody, though it is done, and though it leads again.
	for _, cease := range []func(*rig){func(r *rig) { r.come(no(0, 1, 2)) }, func(r *rig) { r.crash(999).do(api.Start).come(no(0, 1, 2)) }} {
		r := leading(t).ask(api.Call{})
		cease(r)
		r.come(heap(2, 1, 2, 2, 1, 2)).is(2, false, 2).told("")
		r = leading(t).ask(api.Call{})
		cease(r)
		r.do(api.Stand).come(preOk(0, 1, 3), voted(0, 1, 3)).ask(api.Call{}).come(ack(2, 1, 3, true, 4)).is(3, true, 4).told("1(0.0)0,2")
	}
	start(t, 1).ask(add(1)).do(api.Stand).ask(add(2)).crash(0).ask(add(3)).told("1(1.1)12,0 1(1.2)12,0 1(1.3)13,0")
}

// P8.7: the Time of what it lays is the greatest of its clock, its store's time, and the Times in its log.
func TestTimes(t *testing.T) {
	at := func(x api.Item, time int) api.Item {
		x.Time = time
		return x
	}
	leads := func(r *rig, clock int) *rig {
		r.n.Act(api.Act{Kind: api.Tick, Pick: clock})
		return r.do(api.Stand).come(preOk(0, 1, 6), voted(0, 1, 6))
	}
	leads(voter(t), 4).log(0, 0, nop(1), nop(3), nop(3), at(nop(6), 4))
	for clock, want := range []int{5, 5, 5, 5, 5, 5, 6} {
		leads(start(t, 1).come(heap(0, 1, 5, 0, 0, 0, at(nop(2), 3), at(nop(2), 5))), clock).log(0, 0, at(nop(2), 3), at(nop(2), 5), at(nop(6), want))
		s := snap(1, 1)
		s.Machine.Store.Now = 5
		leads(start(t, 1).come(ship(0, 1, 5, s)), clock).log(1, 1, at(nop(6), want))
	}
	// A clock goes on while its node is down, up to MaxTime.
	r := start(t, 1).crash(0)
	r.n.Act(api.Act{Kind: api.Tick, Pick: 3})
	leads(r.do(api.Start).come(no(0, 1, 5)), 4).log(0, 0, at(nop(6), 7))
	r = start(t, 1).come(no(0, 1, 5))
	for range 3000 {
		r.n.Act(api.Act{Kind: api.Tick, Pick: api.MaxTape})
	}
	leads(r, 1).log(0, 0, at(nop(6), api.MaxTime))
}

// P8.9, P8.6: a Trim: what is done goes from the log, and one that lacks it is served the snap; it is a Load on the tape.
func TestTrim(t *testing.T) {
	three := []api.Item{nop(1), item(1, api.Call{}), item(1, add(1))}
	r := leading(t).do(api.Trim).ask(api.Call{}).do(api.Trim).ask(add(1)).log(0, 0, three...)
	r.come(ack(2, 1, 1, true, 2)).is(1, true, 2).do(api.Trim).is(1, true, 2).log(2, 1, three[2])
	first := api.Snap{Index: 2, Term: 1, Machine: r.n.View().Machine}
	r.do(api.Work).sends(ship(1, 0, 1, first), heap(1, 2, 1, 2, 1, 2, three[2]))
	// It stays that one, as long as it is not trimmed again.
	r.come(ack(2, 1, 1, true, 3)).is(1, true, 3).do(api.Work).sends(ship(1, 0, 1, first), heap(1, 2, 1, 3, 1, 3))
	second := api.Snap{Index: 3, Term: 1, Machine: r.n.View().Machine}
	r.do(api.Trim).log(3, 1).do(api.Work).sends(ship(1, 0, 1, second), heap(1, 2, 1, 3, 1, 3)).do(api.Trim).log(3, 1)
	r.come(ack(0, 1, 1, true, 3)).do(api.Work).sends(heap(1, 0, 1, 3, 1, 3), heap(1, 2, 1, 3, 1, 3))
	r.crash(0).is(1, false, 3).log(3, 1)
	// The first Load takes 10 bytes, 18, and of its client 35.
	for keep, done := range map[int]int{62: 0, 63: 2} {
		r = leading(t).ask(api.Call{}).come(ack(2, 1, 1, true, 2))
		r.n.Flush()
		r.do(api.Trim).crash(keep).is(1, false, done)
	}
}
