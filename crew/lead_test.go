package crew_test

import (
	"testing"

	"rostrum/api"
)

// both ask, and all would vote for them; node 0 and node 1 stand in term 1, and their Votes are on their way: from 0 to 1 and 2, and from 1 to 0 and 2.
var twoStand = acts("stand 0; stand 1; sync 0; sync 1; flow; sync 0; sync 1; sync 2; flow; sync 0; sync 1")

func leadersAre(t *testing.T, l []api.Act, want string) {
	t.Helper()
	if s := ledText(ran(t, l)); s != want {
		t.Errorf("%s led, want %s", s, want)
	}
}

// P8.4: of two that stand in the same term the one leads that is heard of first; the other one, which is refused, follows it.
func TestTwoThatStand(t *testing.T) {
	nodes(t, twoStand, "1:0 | 1:0 | 0:0", 4)
	nodes(t, join(twoStand, rounds(2)), "L1:0 1- | 1:0 | 1:0", 0)
	l := join(twoStand, rounds(9))
	nodes(t, l, "L1:1 1- | 1:1 1- | 1:1 1-", 0)
	leadersAre(t, l, "1:0")
	// Node 2 hears of node 1 first.
	l = join(twoStand, acts("take 3"), rounds(9))
	nodes(t, l, "1:1 1- | L1:1 1- | 1:1 1-", 0)
	leadersAre(t, l, "1:1")
}

// P8.4, P8.2: a vote outlasts a crash, if it was synced; if not, nobody was told of it.
func TestVotesOutlastCrashes(t *testing.T) {
	hears := join(twoStand, acts("take 1")) // node 2 has voted for node 0: two Marks of 8 bytes
	for _, c := range []struct{ crash, led string }{
		{"sync 2; crash 2 0", "1:0"}, {"crash 2 0", "1:1"}, {"crash 2 7", "1:1"}, {"crash 2 8", "1:1"}, {"crash 2 15", "1:1"}, {"crash 2 16", ""}, {"crash 2 400000", ""},
	} {
		leadersAre(t, join(hears, acts(c.crash+"; start 2"), rounds(3)), c.led)
	}
	nodes(t, join(hears, acts("crash 2 7")), "1:0 | 1:0 | x0:0", 3)
	nodes(t, join(hears, acts("crash 2 8")), "1:0 | 1:0 | x1:0", 3)
}

// P8.4: a Vote that comes again is answered as before; a Voted that does is not needed.
func TestVotesThatComeAgain(t *testing.T) {
	twice := acts("stand 0; rounds 2; sync 0; copy 0; copy 1; flow; sync 1; sync 2")
	nodes(t, twice, "1:0 | 1:0 | 1:0", 4)
	nodes(t, join(twice, acts("take 0")), "L1:0 1- | 1:0 | 1:0", 3)
	nodes(t, join(twice, acts("flow; sync 0")), "L1:0 1- | 1:0 | 1:0", 2)
	leadersAre(t, join(twice, rounds(5)), "1:0")
}

// P8.4: one PreOk, and one Voted, is enough with its own; none is not.
func TestQuorum(t *testing.T) {
	nodes(t, acts("stand 0; rounds 1; sync 1"), "0:0 | 0:0 | 0:0", 1)
	nodes(t, acts("stand 0; rounds 1; sync 1; take 0; sync 0"), "1:0 | 0:0 | 0:0", 2)
	nodes(t, acts("crash 1 0; crash 2 0; stand 0; rounds 5; stand 0; rounds 5"), "0:0 | x0:0 | x0:0", 0)
	nodes(t, acts("crash 1 0; stand 0; rounds 7"), "L1:1 1- | x0:0 | 1:1 1-", 0)
	// The others vote, but are not heard of any more.
	nodes(t, acts("stand 0; rounds 2; sync 0; flow; crash 1 400000; crash 2 400000; start 1; start 2; rounds 3"), "1:0 | 1:0 | 1:0", 0)
	// Its own Pre and Vote go to the others alone, by their numbers.
	nodes(t, acts("stand 1; sync 1"), "0:0 | 0:0 | 0:0", 2)
	nodes(t, acts("stand 1; sync 1; take 0; sync 0; lose 0; take 0"), "0:0 | 1:0 | 0:0", 0)
	nodes(t, acts("stand 1; sync 1; take 1; sync 2; lose 0; take 0"), "0:0 | 1:0 | 0:0", 0)
}

// P8.4: one that leads does not ask; one that stands may ask anew, and counts votes no more.
func TestStandAgain(t *testing.T) {
	nodes(t, join(led, acts("stand 0; sync 0")), "L1:1 1- | 1:1 1- | 1:1 1-", 0)
	votes := acts("stand 0; rounds 2; sync 0; flow; sync 1; sync 2")
	nodes(t, join(votes, acts("flow")), "L1:0 1- | 1:0 | 1:0", 0)
	nodes(t, join(votes, acts("stand 0; flow")), "1:0 | 1:0 | 1:0", 0)
	l := join(votes, acts("stand 0; rounds 8"))
	nodes(t, l, "L2:1 2- | 2:1 2- | 2:1 2-", 0)
	leadersAre(t, l, "2:0")
	// Who asks anew begins with itself alone: of two that would vote for it each says so once, in the same term.
	once := acts("stand 0; sync 0; lose 1; take 0; sync 1; crash 1 0")
	nodes(t, join(once, acts("stand 0; sync 0")), "0:0 | x0:0 | 0:0", 3)
}

// P8.4: a PreOk counts for one that asks, for the term behind its own.
func TestPreOks(t *testing.T) {
	said := acts("stand 0; sync 0; flow; sync 1; copy 0") // two PreOks of node 1, of term 1
	nodes(t, said, "0:0 | 0:0 | 0:0", 2)
	nodes(t, join(said, acts("take 0")), "1:0 | 0:0 | 0:0", 1)
	nodes(t, join(said, acts("take 0; stand 0; take 0")), "1:0 | 0:0 | 0:0", 0) // it asks for term 2
	nodes(t, join(said, acts("crash 0 0; start 0; take 0")), "0:0 | 0:0 | 0:0", 1)
	nodes(t, join(said, acts("crash 0 0; start 0; stand 0; take 0")), "1:0 | 0:0 | 0:0", 1)
}

// P8.4: one that asks disturbs nobody, as long as it would not win: no term goes on.
func TestAskingDisturbsNobody(t *testing.T) {
	alone := join(withClient, acts("20* stand 2; sync 2; 40* lose 0"))
	nodes(t, alone, "L1:2 1- 1+ | 1:2 1- 1+ | 1:2 1- 1+", 0)
	// Node 2 has not what is done: the others refuse it, with their term.
	behind := join(led, acts("crash 2 0"), acts("ask 0 open; rounds 3; crash 0 400000; start 2"))
	nodes(t, behind, "x1:0 1- 1+ | 1:2 1- 1+ | 1:0 1-", 0)
	nodes(t, join(behind, acts("stand 2; rounds 1; sync 1")), "x1:0 1- 1+ | 1:2 1- 1+ | 1:0 1-", 1)
	nodes(t, join(behind, acts("stand 2; rounds 9; stand 2; rounds 9")), "x1:0 1- 1+ | 1:2 1- 1+ | 1:0 1-", 0)
	l := join(behind, acts("stand 1; rounds 9"))
	nodes(t, l, "x1:0 1- 1+ | L2:3 1- 1+ 2- | 2:3 1- 1+ 2-", 0)
	leadersAre(t, l, "1:0 2:1")
}

// P8.4: a longer log of an elder term stands lower than a shorter one of a later term.
func TestLongerLogOfElderTerm(t *testing.T) {
	l := join(led, acts("5* ask 0 open; sync 0; crash 0 0; stand 1; rounds 9; crash 1 0; start 0"))
	nodes(t, l, "1:0 1- 1+ 1+ 1+ 1+ 1+ | x2:0 1- 2- | 2:2 1- 2-", 0)
	// Its first Pre is of a term that node 2 has already: it hears of it.
	l = join(l, acts("stand 0; rounds 3"))
	nodes(t, l, "2:0 1- 1+ 1+ 1+ 1+ 1+ | x2:0 1- 2- | 2:2 1- 2-", 0)
	l = join(l, acts("stand 0; rounds 9"))
	nodes(t, l, "2:0 1- 1+ 1+ 1+ 1+ 1+ | x2:0 1- 2- | 2:2 1- 2-", 0)
	l = join(l, acts("stand 2; rounds 9"))
	nodes(t, l, "3:3 1- 2- 3- | x2:0 1- 2- | L3:3 1- 2- 3-", 0)
	leadersAre(t, l, "1:0 2:1 3:2")
}

// P8.3: a message of an elder term is answered by a No, but for a No; one who hears of a later term follows.
func TestElderTerms(t *testing.T) {
	// Node 0 leads in term 1, node 1 in term 2, which node 0 has not heard of: its Heaps are on their way.
	l := join(led, acts("work 0; sync 0; stand 1; sync 1; lose 2; take 2; sync 2; take 2; sync 1; lose 2; take 2; sync 2; take 2"))
	nodes(t, l, "L1:1 1- | L2:1 1- 2- | 2:1 1-", 2)
	leadersAre(t, l, "1:0 2:1")
	heard := join(l, acts("take 1; sync 2"))
	nodes(t, heard, "L1:1 1- | L2:1 1- 2- | 2:1 1-", 2)
	nodes(t, join(heard, acts("take 1; sync 0")), "2:1 1- | L2:1 1- 2- | 2:1 1-", 1)
	// A copy of that No comes, when node 0 has a term of its own above it.
	nodes(t, join(heard, acts("copy 1; take 1; stand 0; sync 0; lose 2; take 2; sync 2; take 2; sync 0; lose 2; lose 2; take 1; sync 0")), "3:1 1- | L2:1 1- 2- | 2:1 1-", 1)
}

// P8.10: who led is told by their terms, not by when.
func TestLedByTerms(t *testing.T) {
	// Node 2 has voted for node 0 in term 1, which hears of it only when node 1 leads in term 2.
	l := acts("stand 0; rounds 2; sync 0; flow; sync 2; stand 1; crash 1 400000; start 1; stand 1; sync 1; lose 1; take 1; sync 2; take 1; sync 1; lose 1; take 1; sync 2; take 1")
	nodes(t, l, "1:0 | L2:0 2- | 2:0", 1)
	l = join(l, acts("take 0"))
	nodes(t, l, "L1:0 1- | L2:0 2- | 2:0", 0)
	leadersAre(t, l, "1:0 2:1")
	nodes(t, join(l, rounds(5)), "2:1 2- | L2:1 2- | 2:1 2-", 0)
}

// P8.3, P8.7: one who ceases to lead tells nobody any more, though what it laid may be done.
func TestCeasesToLead(t *testing.T) {
	asked := join(withClient, ask(0, put(1, 1, "x")))
	moves := acts("stand 1; rounds 9")
	// Nobody but node 0 had it: it is replaced.
	l := join(asked, acts("sync 0; crash 0 0"), moves, acts("start 0; rounds 3"))
	nodes(t, l, "2:3 1- 1+ 2- | L2:3 1- 1+ 2- | 2:3 1- 1+ 2-", 0)
	told(t, l, "0(0.0)=1")
	// The others had it: it is done, behind node 1's own.
	moves = acts("stand 1; sync 1; flow; sync 0; sync 2; flow; sync 1; flow; rounds 7")
	l = join(asked, acts("work 0; sync 0; flow; sync 1; sync 2; lose 0; lose 0"), moves)
	nodes(t, l, "2:4 1- 1+ 1(1.1x) 2- | L2:4 1- 1+ 1(1.1x) 2- | 2:4 1- 1+ 1(1.1x) 2-", 0)
	told(t, l, "0(0.0)=1")
	// It leads again: nobody waits any more. Made again at another one, the call is done once, and told.
	l = join(l, ask(1, put(1, 1, "x")), rounds(3), acts("stand 0; rounds 9"), ask(0, put(1, 1, "y")), rounds(3))
	told(t, l, "0(0.0)=1 1(1.1)=0 0(1.1)=0")
	o := nodes(t, l, "L3:7 1- 1+ 1(1.1x) 2- 2(1.1x) 3- 3(1.1y) | 3:7 1- 1+ 1(1.1x) 2- 2(1.1x) 3- 3(1.1y) | 3:7 1- 1+ 1(1.1x) 2- 2(1.1x) 3- 3(1.1y)", 0)
	if s := o.Nodes[2].Machine.Store.Entries[0].Value.Text; s != "x" {
		t.Errorf("it is done twice: %s", s)
	}
	// One that crashes tells nobody, either, even if it leads again.
	l = join(asked, acts("work 0; sync 0; flow; crash 0 0; start 0; stand 0; rounds 9"))
	nodes(t, l, "L2:4 1- 1+ 1(1.1x) 2- | 2:4 1- 1+ 1(1.1x) 2- | 2:4 1- 1+ 1(1.1x) 2-", 0)
	told(t, l, "0(0.0)=1")
}
