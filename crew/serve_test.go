package crew_test

import (
	"strings"
	"testing"

	"rostrum/api"
)

// addsText: n adds of the client 1, from a call on, in a log of a term.
func addsText(term, from, n int) string {
	var l []api.Item
	for i := range n {
		l = append(l, api.Item{Term: term, Call: add(1, from+i)})
	}
	return itemsText(l)
}

func asksOf(node, from, n int) []api.Act {
	var l []api.Act
	for i := range n {
		l = append(l, ask(node, add(1, from+i))...)
	}
	return l
}

// P8.6: one that was down is served what it has not, MaxSend items at once, and does them as far as it has them.
func TestServedItems(t *testing.T) {
	all := "1- 1+" + addsText(1, 1, 20)
	down := join(withClient, acts("crash 2 0"), asksOf(0, 1, 20), rounds(9), acts("sync 1; flow; start 2"))
	nodes(t, down, "L1:22 "+all+" | 1:22 "+all+" | 1:0 1- 1+", 0)
	for i, n := range []int{8, 8, 16, 16, 20, 20} { // what it has is known a round later
		some := "1- 1+" + addsText(1, 1, n)
		o := ran(t, join(down, rounds(i+1)))
		if s := viewText(o.Nodes[2]); s != "1:"+[]string{"10", "10", "18", "18", "22", "22"}[i]+" "+some {
			t.Errorf("round %d: %s", i+1, s)
		}
	}
}

// P8.6, P8.9: what it lacks is trimmed: it is served the snap.
func TestServedSnap(t *testing.T) {
	down := join(withClient, acts("crash 2 0"), asksOf(0, 1, 20), rounds(9), acts("sync 1; flow; trim 0; start 2"))
	nodes(t, down, "L1:22 22/1 | 1:22 1- 1+"+addsText(1, 1, 20)+" | 1:0 1- 1+", 0)
	l := join(down, rounds(1))
	o := nodes(t, l, "L1:22 22/1 | 1:22 1- 1+"+addsText(1, 1, 20)+" | 1:22 22/1", 0)
	if n := o.Nodes[2].Machine.Store.Entries[0].Value.Count; n != 20 {
		t.Errorf("the count is %d", n)
	}
	// It goes on from there, and the snap outlasts a crash.
	l = join(l, asksOf(0, 21, 1), rounds(4))
	nodes(t, l, "L1:23 22/1"+addsText(1, 21, 1)+" | 1:23 1- 1+"+addsText(1, 1, 21)+" | 1:23 22/1"+addsText(1, 21, 1), 0)
	nodes(t, join(l, acts("crash 2 0")), "L1:23 22/1"+addsText(1, 21, 1)+" | 1:23 1- 1+"+addsText(1, 1, 21)+" | x1:22 22/1"+addsText(1, 21, 1), 0)
	// It stands, and leads, with what came by the snap.
	l = join(l, acts("crash 0 0; stand 2; rounds 7"), ask(2, add(1, 21)), ask(2, add(1, 22)), rounds(3))
	if s := toldText(ran(t, l)); !strings.HasSuffix(s, "0(1.21)=21 2(1.21)=21 2(1.22)=22") {
		t.Errorf("told %s", s)
	}
}

// P8.6: a snap that comes when more is done already changes nothing, though it is answered.
func TestShipThatIsLate(t *testing.T) {
	l := join(withClient, acts("crash 2 0"), asksOf(0, 1, 3), rounds(5), acts("sync 1; flow; trim 0; start 2; work 0; sync 0; copy 1; copy 1; flow; sync 1; sync 2; flow"))
	nodes(t, l, "L1:5 5/1 | 1:5 1- 1+"+addsText(1, 1, 3)+" | 1:5 5/1", 0)
	// One copy of the Ship stays behind, till node 2 has done one item more.
	l = join(withClient, acts("crash 2 0"), asksOf(0, 1, 3), rounds(5), acts("sync 1; flow; trim 0; start 2; work 0; sync 0; copy 1; take 0; take 0; sync 1; sync 2; take 1; take 1"), asksOf(0, 4, 1))
	nodes(t, l, "L1:5 5/1"+addsText(1, 4, 1)+" | 1:5 1- 1+"+addsText(1, 1, 3)+" | 1:5 5/1", 1)
	l = join(l, acts("work 0; sync 0; take 1; take 1; sync 1; sync 2; take 1; take 1; work 0; sync 0; take 1; take 1; sync 1; sync 2; take 1; take 1"))
	nodes(t, l, "L1:6 5/1"+addsText(1, 4, 1)+" | 1:6 1- 1+"+addsText(1, 1, 4)+" | 1:6 5/1"+addsText(1, 4, 1), 1)
	nodes(t, join(l, acts("take 0; sync 2")), "L1:6 5/1"+addsText(1, 4, 1)+" | 1:6 1- 1+"+addsText(1, 1, 4)+" | 1:6 5/1"+addsText(1, 4, 1), 1)
}

// P8.6: Heaps that come in another order, not at all, or twice: it is served what it lacks, and all is done once.
func TestHeapsInAnyOrder(t *testing.T) {
	asked := join(withClient, asksOf(0, 1, 8), acts("work 0"), asksOf(0, 9, 2), acts("sync 0; sync 1; sync 2"))
	// To node 1 and to node 2 a Heap with eight adds; the others were not there yet.
	nodes(t, asked, "L1:2 1- 1+"+addsText(1, 1, 10)+" | 1:2 1- 1+ | 1:2 1- 1+", 2)
	all := "1- 1+" + addsText(1, 1, 10)
	same := "L1:12 " + all + " | 1:12 " + all + " | 1:12 " + all
	for _, way := range []string{
		"flow", "take 1; take 0", "lose 0", "lose 1", "lose 0; lose 0", "copy 0; copy 1; copy 0; flow", "copy 0; copy 1; take 3; take 1; take 1; take 0",
		"take 0; sync 1; copy 0; work 0; sync 0; copy 1; flow", "copy 0; copy 1; take 0; take 0; sync 1; sync 2; take 2; take 2; work 0; sync 0; take 3; take 2",
	} {
		l := join(asked, acts(way), rounds(9))
		o := nodes(t, l, same, 0)
		if n := o.Nodes[1].Machine.Store.Entries[0].Value.Count; n != 10 {
			t.Errorf("%s: the count is %d", way, n)
		}
	}
}

// lacking: node 1 leads in term 2, behind twelve adds that are done; node 2 has two items, of which it knows none to be done; the first Heap to it waits. Node 0 is down.
var lacking = join(withClient, acts("crash 2 0"), asksOf(0, 1, 12), rounds(9),
	acts("sync 1; flow; crash 0 0; start 2; stand 1; sync 1; flow; sync 2; flow; sync 1; flow; sync 2; flow"))

// P8.6: a Heap that does not fit is answered by how far items are done, and the next one is from there on, or from behind what the node has said to have.
func TestHeapsThatDoNotFit(t *testing.T) {
	zero := "x1:0 1- 1+" + addsText(1, 1, 12)
	lead := "L2:14 1- 1+" + addsText(1, 1, 12) + " 2-"
	nodes(t, lacking, zero+" | "+lead+" | 2:0 1- 1+", 0)
	l := join(lacking, acts("sync 1; flow; sync 2")) // an Ack that is not Yes is on its way
	nodes(t, l, zero+" | "+lead+" | 2:0 1- 1+", 1)
	l = join(l, acts("copy 0; take 0; work 1; sync 1; take 2"))
	nodes(t, l, zero+" | "+lead+" | 2:8 1- 1+"+addsText(1, 1, 6), 2)
	// It says to have that; then the copy of the first Ack comes.
	l = join(l, acts("sync 2; take 2; take 0; flow; work 1; sync 1; flow"))
	nodes(t, l, zero+" | "+lead+" | 2:14 1- 1+"+addsText(1, 1, 12)+" 2-", 0)
	l = join(l, acts("sync 2; flow; work 1; sync 1; flow"))
	nodes(t, l, zero+" | L2:15 1- 1+"+addsText(1, 1, 12)+" 2- | 2:15 1- 1+"+addsText(1, 1, 12)+" 2-", 0)
}

// P8.6: items are done up to what a Heap tells, not up to where the log goes.
func TestDoneUpToWhatIsTold(t *testing.T) {
	l := join(lacking, acts("sync 1; flow; sync 2; flow; work 1; sync 1; copy 1; take 0; take 0; sync 2; take 1; work 1; sync 1; take 2"))
	all := "1- 1+" + addsText(1, 1, 12) + " 2-"
	zero := "x1:0 1- 1+" + addsText(1, 1, 12)
	nodes(t, l, zero+" | L2:14 "+all+" | 2:14 "+all, 2)
	// It crashes, and hears of its first eight items again.
	l = join(l, acts("crash 2 400000; start 2"))
	nodes(t, l, zero+" | L2:14 "+all+" | 2:0 "+all, 2)
	nodes(t, join(l, acts("take 0")), zero+" | L2:14 "+all+" | 2:8 "+all, 1)
}

// P8.6: what most have is done, if it is of the leader's own term, or ahead of such an item.
func TestItemsOfElderTerms(t *testing.T) {
	one := "1- 1+" + addsText(1, 1, 16)
	l := join(withClient, acts("crash 2 0"), asksOf(0, 1, 16), acts("work 0; sync 0; flow; sync 1; flow; work 0; sync 0; flow; crash 0 0; start 2"))
	nodes(t, l, "x1:0 "+one+" | 1:10 "+one+" | 1:0 1- 1+", 0)
	l = join(l, acts("stand 1; sync 1; flow; sync 2; flow; sync 1; flow; sync 2; flow; sync 1; flow; sync 2; flow"))
	turn := acts("work 1; sync 1; flow; sync 2; flow")
	nodes(t, l, "x1:0 "+one+" | L2:10 "+one+" 2- | 2:0 1- 1+", 0)
	l = join(l, turn)
	nodes(t, l, "x1:0 "+one+" | L2:10 "+one+" 2- | 2:8 1- 1+"+addsText(1, 1, 6), 0)
	l = join(l, turn) // most have up to 16
	nodes(t, l, "x1:0 "+one+" | L2:10 "+one+" 2- | 2:10 1- 1+"+addsText(1, 1, 14), 0)
	l = join(l, turn)
	nodes(t, l, "x1:0 "+one+" | L2:19 "+one+" 2- | 2:10 "+one+" 2-", 0)
	told(t, l, "0(0.0)=1 0(1.1)=1 0(1.2)=2 0(1.3)=3 0(1.4)=4 0(1.5)=5 0(1.6)=6 0(1.7)=7 0(1.8)=8")
}

// P8.6: a Heap of a place that is trimmed already fits, whatever its term was.
func TestHeapOfATrimmedPlace(t *testing.T) {
	// A copy of a Heap with the Nop and the first item comes when node 1 has trimmed both.
	l := acts("stand 0; rounds 4; ask 0 open; work 0; sync 0; copy 2; lose 0; lose 0; take 0; take 0; sync 1; sync 2; take 1; take 1; work 0; sync 0; take 1; take 1")
	nodes(t, l, "L1:2 1- 1+ | 1:2 1- 1+ | 1:2 1- 1+", 1)
	l = join(l, acts("trim 1; trim 2"))
	nodes(t, l, "L1:2 1- 1+ | 1:2 2/1 | 1:2 2/1", 1)
	// It is answered, as is the last Heap.
	l = join(l, acts("flow; sync 1"))
	nodes(t, l, "L1:2 1- 1+ | 1:2 2/1 | 1:2 2/1", 2)
	nodes(t, join(l, acts("flow; ask 0 open"), rounds(3)), "L1:3 1- 1+ 1+ | 1:3 2/1 1+ | 1:3 2/1 1+", 0)
}

// P8.7: an item's Time is the greatest of the node's clock, its store's time, and the Times in its log.
func TestTimes(t *testing.T) {
	l := join(acts("tick 0 5; stand 0"), rounds(7), acts("sync 1; sync 2; flow"))
	nodes(t, l, "L1:1 1-@5 | 1:1 1-@5 | 1:1 1-@5", 0)
	// The clock.
	l = join(l, acts("tick 0 2; ask 0 open; rounds 3; tick 0 1"), ask(0, put(1, 1, "x")), rounds(3), acts("sync 1; sync 2; flow"))
	nodes(t, l, "L1:3 1-@5 1+@7 1(1.1x)@8 | 1:3 1-@5 1+@7 1(1.1x)@8 | 1:3 1-@5 1+@7 1(1.1x)@8", 0)
	// Node 1, with a clock at 1: its log; then, when that is trimmed, its store.
	l = join(l, acts("tick 0 9; tick 1 1; crash 0 0; stand 1; rounds 7; sync 2; flow"))
	nodes(t, l, "x1:0 1-@5 1+@7 1(1.1x)@8 | L2:4 1-@5 1+@7 1(1.1x)@8 2-@8 | 2:4 1-@5 1+@7 1(1.1x)@8 2-@8", 0)
	l = join(l, acts("trim 1; ask 1 open; tick 1 6; ask 1 open; tick 1 2; ask 1 open; rounds 3"))
	nodes(t, l, "x1:0 1-@5 1+@7 1(1.1x)@8 | L2:7 4/2 2+@8 2+@8 2+@9 | 2:7 1-@5 1+@7 1(1.1x)@8 2-@8 2+@8 2+@8 2+@9", 0)
	// A Nop does nothing with the store: when it is trimmed, its Time is forgotten, but not by a log that has it still.
	l = join(acts("tick 0 5; stand 0"), rounds(7), acts("trim 0; trim 1; sync 1; sync 2; flow; crash 0 400000; stand 1; rounds 7"))
	nodes(t, l, "x1:1 1/1 | L2:1 1/1 2- | 2:1 1-@5", 0)
	nodes(t, join(l, acts("trim 2; rounds 3")), "x1:1 1/1 | L2:2 1/1 2- | 2:2 1/1 2-", 0)
}

// P8.8: a call is done at its item's Time, whatever the clocks of others say.
func TestDoneAtTheItemsTime(t *testing.T) {
	expire := call(1, 2, api.Command{Kind: api.Expire, Key: "k", N: 3})
	l := join(withClient, acts("tick 1 900; tick 2 1"), ask(0, put(1, 1, "x")), ask(0, expire), acts("tick 0 2"), ask(0, call(1, 3, api.Command{Kind: api.Life, Key: "k"})),
		acts("tick 0 1"), ask(0, call(1, 4, api.Command{Kind: api.Life, Key: "k"})), rounds(3))
	told(t, l, "0(0.0)=1 0(1.1)=0 0(1.2)=0 0(1.3)=1 0(1.4)!5")
	for i, v := range ran(t, l).Nodes {
		if v.Machine.Store.Now != 3 || len(v.Machine.Store.Entries) != 0 || v.Machine.Clients[0].Time != 3 {
			t.Errorf("node %d: %+v", i, v.Machine)
		}
	}
}
