package crew_test

import (
	"strconv"
	"testing"

	"rostrum/api"
)

// crashes: behind acts node 0 crashes, and of what was not synced so many bytes stay: then its view is one of those that are wanted, the next one from each of the places on.
func crashes(t *testing.T, l []api.Act, places []int, want ...string) {
	t.Helper()
	most := places[len(places)-1] + 2
	for keep := range most + 1 {
		if keep == most {
			keep = api.MaxTape
		}
		n := 0
		for n < len(places) && keep >= places[n] {
			n++
		}
		if s := viewText(ran(t, join(l, one(api.Crash, 0, keep))).Nodes[0]); s != want[n] {
			t.Errorf("%d bytes stay: %s, want %s", keep, s, want[n])
		}
	}
}

// P8.9, P8.2: a crash that keeps nothing, some bytes of a record, and all: what was synced is there, and of the rest what stands whole.
func TestCrashKeeps(t *testing.T) {
	nodes(t, acts("crash 0 0"), "x0:0 | 0:0 | 0:0", 0)
	// A Mark: of 8 bytes.
	crashes(t, acts("stand 0; rounds 2"), []int{8}, "x0:0", "x1:0")
	crashes(t, acts("stand 0; rounds 2; sync 0"), []int{0}, "", "x1:0")
	// Its Nop: a Line of 7 bytes and 17.
	crashes(t, acts("stand 0; rounds 4"), []int{24}, "x1:0", "x1:0 1-")
	// Behind that the Line of a call: of 7 bytes, 25, and 8, 1, 2, 1, 2 and 8.
	l := join(withClient, ask(0, put(1, 1, "x")))
	crashes(t, l, []int{54}, "x1:0 1- 1+", "x1:0 1- 1+ 1(1.1x)")
	crashes(t, join(l, ask(0, put(1, 2, ""))), []int{54, 107}, "x1:0 1- 1+", "x1:0 1- 1+ 1(1.1x)", "x1:0 1- 1+ 1(1.1x) 1(1.2)")
	crashes(t, join(l, acts("sync 0"), ask(0, put(1, 2, ""))), []int{53}, "x1:0 1- 1+ 1(1.1x)", "x1:0 1- 1+ 1(1.1x) 1(1.2)")
	crashes(t, join(l, acts("work 0; sync 0"), ask(0, put(1, 2, "")), acts("crash 0 52; start 0; rounds 1")), []int{0}, "", "x1:0 1- 1+ 1(1.1x)")
	// A Load of a machine with one client: of 10 bytes, 18, and 24, 1, 1, 8 and 1.
	crashes(t, join(withClient, acts("trim 0")), []int{63}, "x1:0 1- 1+", "x1:2 2/1")
}

// P8.9: the same of Lines that a Heap brings, one by one, and of a Load that a Ship does.
func TestCrashOfOneThatIsServed(t *testing.T) {
	// Node 1 leads in term 2; node 0 has two items that were laid by nobody else.
	l := join(led, acts("ask 0 open; ask 0 open; sync 0; crash 0 0; stand 1; rounds 9; ask 1 open; start 0"))
	crashes(t, l, []int{0}, "", "x1:0 1- 1+ 1+")
	l = join(l, acts("work 1; sync 1; flow")) // a Mark, and two Lines in place of its own
	crashes(t, l, []int{8, 32, 64}, "x1:0 1- 1+ 1+", "x2:0 1- 1+ 1+", "x2:0 1- 2-", "x2:0 1- 2- 2+")
	l = join(led, acts("crash 0 0; stand 1; rounds 9; trim 1; start 0; work 1; sync 1; flow"))
	nodes(t, l, "2:2 2/2 | L2:2 2/2 | 2:2 1- 2-", 0)
	crashes(t, l, []int{8, 36}, "x1:0 1-", "x2:0 1-", "x2:2 2/2") // a Mark, and a Load of a new machine
}

// P8.9: behind a crash a node knows its snap's machine, what it has voted, and whatever else the tape tells, and follows.
func TestKnowsBehindACrash(t *testing.T) {
	l := join(withClient, ask(0, add(1, 1)), rounds(3), acts("trim 0"), ask(0, add(1, 2)), rounds(3))
	o := nodes(t, join(l, acts("crash 0 0; crash 1 0; crash 2 0")), "x1:3 3/1 1(1.2) | x1:0 1- 1+ 1(1.1)..2 | x1:0 1- 1+ 1(1.1)..2", 0)
	if m := o.Nodes[0].Machine; m.Next != 2 || m.Clients[0].Seq != 1 || m.Store.Entries[0].Value.Count != 1 {
		t.Errorf("the machine is %+v", m)
	}
	if m := o.Nodes[1].Machine; m.Next != 1 || len(m.Clients) != 0 || len(m.Store.Entries) != 0 {
		t.Errorf("the machine is %+v", m)
	}
	// All start again: what was done is done again, by whoever leads.
	l = join(l, acts("crash 0 0; crash 1 0; crash 2 0; start 0; start 1; start 2; stand 2; rounds 9"), ask(2, add(1, 3)), rounds(3))
	o = nodes(t, l, "2:6 3/1 1(1.2) 2- 2(1.3) | 2:6 1- 1+ 1(1.1)..2 2- 2(1.3) | L2:6 1- 1+ 1(1.1)..2 2- 2(1.3)", 0)
	told(t, l, "0(0.0)=1 0(1.1)=1 0(1.2)=2 2(1.3)=3")
	for i, v := range o.Nodes {
		if n := v.Machine.Store.Entries[0].Value.Count; n != 3 {
			t.Errorf("node %d: the count is %d", i, n)
		}
	}
	// It crashes again and again, and its tape grows on.
	for i := range 5 {
		l = join(l, acts("crash 2 400000; start 2; stand 0; rounds 9; crash 0 "+strconv.Itoa(7*i)+"; start 0; stand 2; rounds 9"), ask(2, add(1, 4+i)), rounds(3))
	}
	o = ran(t, l)
	for i, v := range o.Nodes {
		if n := v.Machine.Store.Entries[0].Value.Count; n != 8 || v.Leads != (i == 2) || v.Term != 12 {
			t.Errorf("node %d: the count is %d; %s", i, n, viewText(v))
		}
	}
}

// P8.9: Trim up to where items are done; with nothing done behind the log's Base nothing comes of it.
func TestTrims(t *testing.T) {
	for _, l := range [][]api.Act{nil, acts("stand 0; rounds 4"), join(led, acts("trim 0; trim 1; trim 2")), join(led, acts("trim 0; trim 1; trim 2; ask 0 open"))} {
		a, b := ran(t, join(l, acts("crash 0 400000"))), ran(t, join(l, acts("trim 0; trim 1; trim 2; trim 0; crash 0 400000")))
		if !same(a, b) {
			t.Errorf("%+v, want %+v", b, a)
		}
	}
	l := join(withClient, ask(0, put(1, 1, "x")), acts("trim 0; trim 1"))
	nodes(t, l, "L1:2 2/1 1(1.1x) | 1:2 2/1 | 1:2 1- 1+", 0)
	l = join(l, rounds(3))
	nodes(t, l, "L1:3 2/1 1(1.1x) | 1:3 2/1 1(1.1x) | 1:3 1- 1+ 1(1.1x)", 0)
	l = join(l, acts("trim 0; trim 2"))
	nodes(t, l, "L1:3 3/1 | 1:3 2/1 1(1.1x) | 1:3 3/1", 0)
	// It is written: synced with the next Sync, else lost.
	nodes(t, join(l, acts("sync 0; crash 0 0; crash 2 0")), "x1:3 3/1 | 1:3 2/1 1(1.1x) | x1:0 1- 1+ 1(1.1x)", 0)
	told(t, l, "0(0.0)=1 0(1.1)=0")
}

// P8.7, P8.6: a log that is full takes no item, neither of one that leads nor of a Heap, till it is trimmed.
func TestFullLog(t *testing.T) {
	ahead := join(withClient, manyAdds(1, 197), acts("sync 1; sync 2; flow"))
	all := "1- 1+" + addsText(1, 1, 197)
	nodes(t, ahead, "L1:199 "+all+" | 1:199 "+all+" | 1:199 "+all, 0)
	l := join(ahead, ask(0, add(1, 198)), ask(0, add(1, 199)), acts("ask 0 open"))
	if o := ran(t, l); toldText(api.Outcome{Told: o.Told[len(o.Told)-2:]}) != "0(1.199)!6 0(0.0)!6" || len(o.Nodes[0].Log.Items) != api.MaxLog {
		t.Errorf("told %+v; %d items", o.Told[len(o.Told)-2:], len(o.Nodes[0].Log.Items))
	}
	// What was not laid is not on the tape.
	o := ran(t, join(l, acts("crash 0 400000")))
	if n := len(o.Nodes[0].Log.Items); n != api.MaxLog {
		t.Errorf("%d items", n)
	}
	// The one that leads has room again; the others take no more till they have, too.
	l = join(l, rounds(3), acts("trim 0"), ask(0, add(1, 199)), rounds(3))
	all = "1- 1+" + addsText(1, 1, 198)
	nodes(t, l, "L1:200 200/1"+addsText(1, 199, 1)+" | 1:200 "+all+" | 1:200 "+all, 0)
	l = join(l, acts("trim 1"), rounds(3))
	nodes(t, l, "L1:201 200/1"+addsText(1, 199, 1)+" | 1:201 200/1"+addsText(1, 199, 1)+" | 1:200 "+all, 0)
	// One that comes to lead with a full log lays no Nop, and what is of elder terms is not done by it.
	l = join(ahead, ask(0, add(1, 198)), acts("work 0; sync 0; flow; crash 0 0; stand 1; rounds 9"), ask(1, add(1, 199)), rounds(3))
	nodes(t, l, "x1:0 "+all+" | L2:199 "+all+" | 2:199 "+all, 0)
	l = join(l, acts("trim 1"), ask(1, add(1, 199)), acts("trim 2; rounds 5"))
	nodes(t, l, "x1:0 "+all+" | L2:201 199/1"+addsText(1, 198, 1)+addsText(2, 199, 1)+" | 2:201 199/1"+addsText(1, 198, 1)+addsText(2, 199, 1), 0)
}
