package crew_test

import (
	"fmt"
	"strings"
	"testing"

	"rostrum/api"
)

// terms of the nodes, behind an `x`, if they are down, and an `L`, if they lead.
func terms(t *testing.T, l []api.Act, want string) {
	t.Helper()
	var s []string
	for _, v := range ran(t, l).Nodes {
		v.Commit, v.Log = 0, api.Log{}
		s = append(s, strings.TrimSuffix(viewText(v), ":0"))
	}
	if s := strings.Join(s, " "); s != want {
		t.Errorf("terms %s, want %s", s, want)
	}
}

// P8.2 to P8.4: no room for the Mark of a later term, of a vote in it, and of one who would stand.
func TestNoRoomForAMark(t *testing.T) {
	stand := acts("stand 1; sync 1; flow; sync 0; sync 2; flow; sync 1; flow; sync 0; sync 2; flow")
	for _, c := range []struct {
		room                int
		all, without, alone string
	}{
		{7, "2 L2 1", "x1 2 1", "L1 x1 1"},
		{8, "2 L2 2", "x1 2 2", "2 x1 L2"},
		{15, "2 L2 2", "x1 2 2", "2 x1 L2"},
		{16, "2 L2 2", "x1 L2 2", "2 x1 L2"},
	} {
		t.Run(fmt.Sprint(c.room), func(t *testing.T) {
			t.Parallel()
			l := crammedOne(t, 2, c.room).l
			terms(t, join(l, stand), c.all)
			terms(t, join(l, acts("crash 0 0"), stand), c.without) // node 2's vote is needed
			// A No or a Voted goes out, behind the Vote to node 0, if there was room for the term, at least.
			if o := ran(t, join(l, stand[:6], acts("sync 1; take 1; sync 2"))); o.Away != 1+min(c.room/8, 1) {
				t.Errorf("%d away", o.Away)
			}
			terms(t, join(l, acts("crash 1 0; stand 2; rounds 5")), c.alone)
		})
	}
	t.Run("who leads", func(t *testing.T) {
		t.Parallel()
		terms(t, join(crammedOne(t, 0, 7).l, stand, rounds(2)), "L1 L2 2")
		terms(t, join(crammedOne(t, 0, 8).l, stand, rounds(2)), "2 L2 2")
	})
}

// P8.5, P8.7: no room for the Line of a Nop, or of a call: it can't be laid, and the log is as it was.
func TestNoRoomForALine(t *testing.T) {
	for room := 31; room <= 32; room++ {
		t.Run(fmt.Sprint(room), func(t *testing.T) {
			t.Parallel()
			f := crammedOne(t, 0, room)
			o := ran(t, join(f.l, acts("ask 0 open")))
			laid := len(o.Nodes[0].Log.Items) - len(f.m.figures[0].log.Items)
			more := toldText(api.Outcome{Told: o.Told[len(f.m.out.Told):]})
			if laid != room-31 || more != []string{"0(0.0)!6", ""}[laid] {
				t.Errorf("room for %d: told %s, %d laid", room, more, laid)
			}
			// A Mark of 8 bytes, and its Nop of 24.
			f = crammedOne(t, 2, room)
			o = ran(t, join(f.l, acts("stand 2; rounds 7")))
			laid = len(o.Nodes[2].Log.Items) - len(f.m.figures[2].log.Items)
			if !o.Nodes[2].Leads || laid != room-31 || o.Nodes[0].Commit != o.Nodes[2].Commit || o.Nodes[2].Commit != f.m.figures[2].done+laid {
				t.Errorf("room for %d: %d laid, %d done", room, laid, o.Nodes[2].Commit)
			}
		})
	}
}

// P8.6: no room for all the Lines of a Heap: none is written, and no Ack goes out.
func TestNoRoomForAHeap(t *testing.T) {
	for _, room := range []int{31, 32, 63, 64} {
		t.Run(fmt.Sprint(room), func(t *testing.T) {
			t.Parallel()
			f := crammedOne(t, 2, room)
			had := len(f.m.figures[2].log.Items)
			one, two := acts("ask 0 open; work 0; sync 0; flow; sync 2"), acts("ask 0 open; ask 0 open; work 0; sync 0; flow; sync 2")
			for n, l := range [][]api.Act{one, two} {
				n++
				o := ran(t, join(f.l, l))
				took := 0
				if room >= 32*n {
					took = n
				}
				if len(o.Nodes[2].Log.Items) != had+took || o.Away != min(took, 1) {
					t.Errorf("room for %d: %d of %d taken, %d away", room, len(o.Nodes[2].Log.Items)-had, n, o.Away)
				}
				o = ran(t, join(f.l, l, acts("sync 2; crash 2 0")))
				if len(o.Nodes[2].Log.Items) != had+took {
					t.Errorf("room for %d: %d of %d written", room, len(o.Nodes[2].Log.Items)-had, n)
				}
			}
		})
	}
}

// P8.6, P8.9: no room for a Load, of a Trim or of a Ship: nothing comes of it.
func TestNoRoomForALoad(t *testing.T) {
	model := crammedOne(t, 2, 0).m.figures[2].machine
	load := sizeOf(api.Record{Kind: api.Load, Snap: api.Snap{Machine: model}})
	for less := range 2 {
		t.Run(fmt.Sprint(less), func(t *testing.T) {
			t.Parallel()
			f := crammedOne(t, 2, load-less)
			done := f.m.figures[2].done
			o := ran(t, join(f.l, acts("trim 2; sync 2; crash 2 0")))
			if trimmed := o.Nodes[2].Log.Base == done; trimmed != (less == 0) {
				t.Errorf("room for %d less: %s", less, viewText(o.Nodes[2]))
			}
			// It is down; what it has not done since is in a snap, of the same size.
			l := join(f.l, acts("crash 2 0"), acts("stand 0"), ask(0, call(1, f.seq+1, api.Command{Kind: api.Len, Key: "key of hasha"})), rounds(3), acts("trim 0; start 2; work 0; sync 0; flow; sync 2"))
			o = ran(t, l)
			if has := o.Nodes[2].Commit == done+1; has != (less == 0) || o.Away != 1-less {
				t.Errorf("room for %d less: %s, %d away", less, viewText(o.Nodes[2]), o.Away)
			}
		})
	}
}
