package crew_test

import (
	"strconv"
	"testing"

	"rostrum/api"
)

// P8.9: Take, Lose and Copy of the message at a place, counted round and round.
func TestPlacesOnTheWay(t *testing.T) {
	pres := acts("stand 0; sync 0") // to node 1, and to node 2
	for pick := range 9 {
		p := strconv.Itoa(pick)
		who := 1 + pick%2 // the one that hears of it answers
		l := join(pres, acts("take "+p))
		nodes(t, join(l, one(api.Sync, who, 0)), "0:0 | 0:0 | 0:0", 2)
		nodes(t, join(l, one(api.Sync, 3-who, 0)), "0:0 | 0:0 | 0:0", 1)
		l = join(pres, acts("lose "+p+"; take 0"))
		nodes(t, join(l, one(api.Sync, 3-who, 0)), "0:0 | 0:0 | 0:0", 1)
		nodes(t, join(l, one(api.Sync, who, 0)), "0:0 | 0:0 | 0:0", 0)
		l = join(pres, acts("copy "+p))
		nodes(t, l, "0:0 | 0:0 | 0:0", 3)
		l = join(l, acts("take 2")) // the copy is behind all
		nodes(t, join(l, one(api.Sync, who, 0)), "0:0 | 0:0 | 0:0", 3)
		nodes(t, join(l, one(api.Sync, 3-who, 0)), "0:0 | 0:0 | 0:0", 2)
		l = join(pres, acts("copy "+p+"; lose 2; flow; sync 1; sync 2")) // and what it is of stays where it was
		nodes(t, l, "0:0 | 0:0 | 0:0", 2)
	}
	nodes(t, join(pres, acts("take 400000; sync 1")), "0:0 | 0:0 | 0:0", 2)
	nodes(t, join(pres, acts("take 399999; sync 2")), "0:0 | 0:0 | 0:0", 2)
}

// P8.9: the order of what is left stays; Flow takes all that is on its way, in order, and nothing that comes of it.
func TestOrderOnTheWay(t *testing.T) {
	nodes(t, join(twoStand, acts("lose 0; take 0; sync 2; lose 0; lose 0; take 0")), "L1:0 1- | 1:0 | 1:0", 0) // 0 to 2 was next
	nodes(t, join(twoStand, acts("lose 2; take 2; sync 2; take 2")), "1:0 | L1:0 1- | 1:0", 2)
	nodes(t, join(twoStand, acts("copy 1; take 3; flow; sync 2; flow")), "1:0 | L1:0 1- | 1:0", 0)
	nodes(t, join(twoStand, acts("copy 3; take 1; flow; sync 2; flow")), "L1:0 1- | 1:0 | 1:0", 0)
	nodes(t, acts("stand 0; sync 0; flow; sync 0"), "0:0 | 0:0 | 0:0", 0)
	nodes(t, acts("stand 0; sync 0; flow; flow; sync 1; sync 2"), "0:0 | 0:0 | 0:0", 2)
	// What waits at a node goes out in order, behind what is on its way.
	nodes(t, acts("stand 0; stand 1; sync 1; sync 0; take 2; sync 1"), "0:0 | 0:0 | 0:0", 4)
	nodes(t, acts("stand 0; stand 1; sync 1; sync 0; take 0; sync 0"), "0:0 | 0:0 | 0:0", 4)
	nodes(t, acts("stand 0; stand 1; sync 1; sync 0; take 1; sync 2"), "0:0 | 0:0 | 0:0", 4)
}

// P8.9: no messages on their way.
func TestNoneOnTheWay(t *testing.T) {
	for _, l := range [][]api.Act{nil, led, withClient} {
		a := ran(t, l)
		b := ran(t, join(l, acts("take 0; take 7; lose 0; lose 400000; copy 0; copy 3; flow")))
		if !same(a, b) {
			t.Errorf("%+v, want %+v", b, a)
		}
	}
}

// P8.2: fewer than MaxOut messages wait; the last ones are lost.
func TestMostThatWait(t *testing.T) {
	item := "L1:2 1- 1+ 1(1.1x)"
	nodes(t, join(withClient, acts("149* work 0; sync 0")), "L1:2 1- 1+ | 1:2 1- 1+ | 1:2 1- 1+", 298)
	nodes(t, join(withClient, acts("150* work 0; sync 0")), "L1:2 1- 1+ | 1:2 1- 1+ | 1:2 1- 1+", 300)
	nodes(t, join(withClient, acts("151* work 0; sync 0")), "L1:2 1- 1+ | 1:2 1- 1+ | 1:2 1- 1+", 300)
	x := ask(0, put(1, 1, "x"))
	nodes(t, join(withClient, acts("149* work 0"), x, acts("work 0; work 0; sync 0; flow")), item+" | 1:2 1- 1+ 1(1.1x) | 1:2 1- 1+ 1(1.1x)", 0)
	nodes(t, join(withClient, acts("150* work 0"), x, acts("work 0; work 0; sync 0; flow")), item+" | 1:2 1- 1+ | 1:2 1- 1+", 0)
	// Behind a Sync none waits, nor behind a crash.
	nodes(t, join(withClient, acts("150* work 0; sync 0; flow"), x, acts("work 0; sync 0; flow")), item+" | 1:2 1- 1+ 1(1.1x) | 1:2 1- 1+ 1(1.1x)", 0)
	nodes(t, join(withClient, acts("150* work 0; crash 0 0; start 0; sync 0")), "1:0 1- 1+ | 1:2 1- 1+ | 1:2 1- 1+", 0)
	// An odd one: of the last two there is room for one.
	l := join(withClient, acts("stand 1; sync 1; lose 1; take 0; crash 1 0; start 1; 149* work 0"), x, acts("work 0; sync 0; flow"))
	nodes(t, l, item+" | 1:2 1- 1+ 1(1.1x) | 1:2 1- 1+", 0)
}

// P8.2, P8.9: fewer than MaxOut are on their way; what goes out or is copied behind them is lost.
func TestMostOnTheWay(t *testing.T) {
	full := join(withClient, acts("150* work 0; sync 0"))
	all := "L1:2 1- 1+ | 1:2 1- 1+ | 1:2 1- 1+"
	nodes(t, join(full, acts("copy 0; copy 7")), all, 300)
	nodes(t, join(full, acts("lose 0; copy 7; copy 8")), all, 300)
	nodes(t, join(full, acts("stand 1; sync 1; work 0; sync 0")), all, 300)
	x := join(ask(0, put(1, 1, "x")), acts("work 0"))
	none := "L1:2 1- 1+ 1(1.1x) | 1:2 1- 1+ | 1:2 1- 1+"
	nodes(t, join(full, x, acts("sync 0; flow")), none, 0)
	nodes(t, join(full, x, acts("sync 0; flow; sync 0")), none, 0) // what was lost does not wait any more
	nodes(t, join(full, x, acts("lose 0; sync 0; flow")), "L1:2 1- 1+ 1(1.1x) | 1:2 1- 1+ 1(1.1x) | 1:2 1- 1+", 0)
	nodes(t, join(full, x, acts("lose 0; lose 0; sync 0; flow")), "L1:2 1- 1+ 1(1.1x) | 1:2 1- 1+ 1(1.1x) | 1:2 1- 1+ 1(1.1x)", 0)
	// The tape is synced all the same.
	nodes(t, join(full, x, acts("sync 0; crash 0 0")), "x1:0 1- 1+ 1(1.1x) | 1:2 1- 1+ | 1:2 1- 1+", 300)
}

// P8.9: a clock goes on by Pick, up to MaxTime, whether its node is up or down, and through crashes.
func TestClocks(t *testing.T) {
	up := func(ticks string) string {
		return viewText(ran(t, join(acts(ticks+"; stand 0"), rounds(7), acts("ask 0 open"))).Nodes[0])
	}
	for _, c := range []struct{ ticks, want string }{
		{"tick 0 0", "L1:1 1- 1+"}, {"tick 0 400000; tick 0 1", "L1:1 1-@400001 1+@400001"}, {"tick 1 9; tick 2 9", "L1:1 1- 1+"},
		{"tick 0 3; crash 0 0; tick 0 4; start 0", "L1:1 1-@7 1+@7"},
		{"2684* tick 0 400000", "L1:1 1-@1073600000 1+@1073600000"},
		{"2684* tick 0 400000; tick 0 141823", "L1:1 1-@1073741823 1+@1073741823"},
		{"2684* tick 0 400000; tick 0 141824", "L1:1 1-@1073741824 1+@1073741824"},
		{"2684* tick 0 400000; tick 0 141825", "L1:1 1-@1073741824 1+@1073741824"},
		{"crash 0 0; 2700* tick 0 400000; start 0; tick 0 400000", "L1:1 1-@1073741824 1+@1073741824"},
	} {
		if s := up(c.ticks); s != c.want {
			t.Errorf("%s: %s, want %s", c.ticks, s, c.want)
		}
	}
}
