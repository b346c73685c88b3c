package crew_test

import (
	"fmt"
	"math"
	"slices"
	"testing"

	"rostrum/api"
	"rostrum/client"
	"rostrum/crew"
)

// P8.1, P8.10: no acts: all are up, follow, and know nothing.
func TestNoActs(t *testing.T) {
	for _, l := range [][]api.Act{nil, {}} {
		v := api.View{Up: true, Machine: client.New()}
		if o := ran(t, l); !same(o, api.Outcome{Nodes: []api.View{v, v, v}}) {
			t.Errorf("%+v", o)
		}
	}
}

// The document's example of the whole, round by round: each step goes out with the next Sync, and comes with the Flow behind it.
func TestExample(t *testing.T) {
	for i, want := range []string{
		"0:0 | 0:0 | 0:0",           // what would you say?
		"1:0 | 0:0 | 0:0",           // both would vote for it: it stands
		"1:0 | 1:0 | 1:0",           // both vote
		"L1:0 1- | 1:0 | 1:0",       // it leads
		"L1:0 1- | 1:0 1- | 1:0 1-", // they have its Nop
		"L1:1 1- | 1:0 1- | 1:0 1-", // it knows so
		"L1:1 1- | 1:1 1- | 1:1 1-", // they know so
	} {
		nodes(t, join(acts("stand 0"), rounds(i+1)), want, 0)
	}
	for i, want := range []struct{ nodes, told string }{
		{"L1:1 1- 1+ | 1:1 1- 1+ | 1:1 1- 1+", ""},
		{"L1:2 1- 1+ | 1:1 1- 1+ | 1:1 1- 1+", "0(0.0)=1"},
		{"L1:2 1- 1+ | 1:2 1- 1+ | 1:2 1- 1+", "0(0.0)=1"},
	} {
		l := join(led, acts("ask 0 open"), rounds(i+1))
		nodes(t, l, want.nodes, 0)
		told(t, l, want.told)
	}
	o := ran(t, withClient)
	m, _, _ := client.Do(client.New(), 0, api.Call{})
	log := api.Log{Items: []api.Item{{Term: 1, Nop: true}, {Term: 1}}}
	v := api.View{Up: true, Term: 1, Commit: 2, Log: log, Machine: m}
	lead := v
	lead.Leads = true
	want := api.Outcome{Nodes: []api.View{lead, v, v}, Told: []api.Told{{Reply: api.Reply{N: 1}}}, Led: []api.Lead{{Term: 1}}}
	if !same(o, want) {
		t.Errorf("%+v, want %+v", o, want)
	}
}

// P8.7, P8.8, P8.10: a client asks, and is told what comes of its calls, in order; one that is made again is told the same.
func TestClientAsks(t *testing.T) {
	list := func(seq int) api.Call { return call(1, seq, api.Command{Kind: api.All, Key: "l"}) }
	push := func(seq int, text string) api.Call {
		return call(1, seq, api.Command{Kind: api.Push, Key: "l", Text: text})
	}
	l := join(withClient, ask(0, push(1, "a")), ask(0, push(2, "b")), ask(0, push(2, "b")), rounds(3), ask(0, list(3)), ask(0, put(9, 1, "x")), ask(0, put(1, 9, "x")), rounds(3))
	o := ran(t, l)
	want := []api.Told{
		{Reply: api.Reply{N: 1}}, {Call: push(1, "a"), Reply: api.Reply{N: 1}}, {Call: push(2, "b"), Reply: api.Reply{N: 2}}, {Call: push(2, "b"), Reply: api.Reply{N: 2}},
		{Call: list(3), Reply: api.Reply{List: []string{"a", "b"}}}, {Call: put(9, 1, "x"), Reply: api.Reply{Code: api.ErrGone}}, {Call: put(1, 9, "x"), Reply: api.Reply{Code: api.ErrOrder}},
	}
	if fmt.Sprint(o.Told) != fmt.Sprint(want) {
		t.Errorf("told %+v, want %+v", o.Told, want)
	}
	for i, v := range o.Nodes {
		if v.Commit != 8 || len(v.Log.Items) != 8 || len(v.Machine.Store.Entries) != 1 || !slices.Equal(v.Machine.Store.Entries[0].Value.Items, []string{"a", "b"}) || v.Machine.Clients[0].Seq != 3 {
			t.Errorf("node %d: %+v", i, v)
		}
	}
	// Nothing is told before it is done, and others are told nothing.
	told(t, join(withClient, ask(0, push(1, "a")), rounds(1)), "0(0.0)=1")
	told(t, join(withClient, ask(0, push(1, "a")), acts("rounds 1; work 0; sync 0; sync 1; sync 2; take 0; take 0")), "0(0.0)=1")
	told(t, join(withClient, ask(0, push(1, "a")), acts("rounds 1; work 0; sync 0; sync 1; sync 2; take 0; take 0; take 0")), "0(0.0)=1 0(1.1)=1")
}

// P8.7: who is asked in vain: ErrState ahead of ErrLead; nothing comes of it.
func TestAskedInVain(t *testing.T) {
	c := put(1, 1, "x")
	told(t, join(ask(0, c), ask(1, c), acts("ask 2 open")), "0(1.1)!12 1(1.1)!12 2(0.0)!12")
	told(t, join(acts("crash 1 0"), ask(1, c), acts("ask 1 open; start 1; ask 1 open")), "1(1.1)!13 1(0.0)!13 1(0.0)!12")
	told(t, join(led, ask(1, c), acts("ask 2 open; crash 0 0"), ask(0, c), acts("start 0"), ask(0, c)), "1(1.1)!12 2(0.0)!12 0(1.1)!13 0(1.1)!12")
	for _, ahead := range []string{"stand 0", "stand 0; rounds 1", "stand 0; rounds 2"} { // it asks, and stands: it does not lead yet
		told(t, join(acts(ahead), ask(0, c)), "0(1.1)!12")
	}
	nodes(t, join(led, ask(1, c), ask(2, c), rounds(3)), "L1:1 1- | 1:1 1- | 1:1 1-", 0)
}

// P8.10: more than MaxActs, and acts that may not be; the outcome is empty.
func TestRefusedActs(t *testing.T) {
	wrong := api.Act{Kind: api.Work, Node: api.Nodes}
	flows := func(n int) []api.Act { return slices.Repeat(acts("flow"), n) }
	for i, c := range []struct {
		l []api.Act
		e api.Errno
	}{
		{flows(api.MaxActs), api.OK},
		{flows(api.MaxActs + 1), api.ErrSize},
		{join([]api.Act{wrong}, flows(api.MaxActs)), api.ErrSize},
		{join(flows(api.MaxActs), []api.Act{wrong}), api.ErrSize},
		{make([]api.Act, api.MaxActs+1), api.ErrSize},
		{make([]api.Act, api.MaxActs), api.ErrKind},
		{join(flows(api.MaxActs-1), []api.Act{wrong}), api.ErrRange},
		{[]api.Act{{}}, api.ErrKind}, {[]api.Act{{Kind: 13}}, api.ErrKind}, {[]api.Act{{Kind: math.MinInt}}, api.ErrKind},
		{[]api.Act{{Kind: api.Work, Node: -1}}, api.ErrRange}, {[]api.Act{{Kind: api.Take, Pick: -1}}, api.ErrRange}, {[]api.Act{{Kind: api.Take, Pick: api.MaxTape + 1}}, api.ErrRange},
		{[]api.Act{{Kind: api.Flow, Node: 1}}, api.ErrForm}, {ask(0, api.Call{Seq: 1}), api.ErrForm},
		{ask(0, put(1, 0, "x")), api.ErrRange}, {ask(0, put(1, 1, "a text of too many bytes")), api.ErrSize}, {ask(0, call(1, 1, api.Command{Kind: 23})), api.ErrKind},
		{join(withClient, []api.Act{wrong}, withClient), api.ErrRange},
		{join(withClient, []api.Act{{Kind: 13}, wrong}), api.ErrKind}, {join(withClient, []api.Act{wrong, {Kind: 13}}), api.ErrRange},
	} {
		o, e := crew.Run(c.l)
		if e != c.e || e != api.OK && !same(o, api.Outcome{}) {
			t.Errorf("case %d: %+v %d, want %d", i, o, int(e), int(c.e))
		}
	}
}

// P8.9: acts of a node that is down, but Ask, Tick and Start, leave all as it is.
func TestActsOfOneThatIsDown(t *testing.T) {
	ahead := join(withClient, ask(0, put(1, 1, "x")), acts("work 0; sync 0; stand 1; stand 2"))
	down := "stand 0; work 0; sync 0; crash 0 400000; trim 0; stand 0; sync 0"
	for _, rest := range []string{"", "start 0", "start 0; sync 0", "start 0; work 0; sync 0; trim 0; rounds 9"} {
		behind := acts("sync 0")
		if rest != "" {
			behind = acts(rest)
		}
		a := ran(t, join(ahead, acts("crash 0 0"), behind))
		b := ran(t, join(ahead, acts("crash 0 0"), acts(down), behind))
		if !same(a, b) {
			t.Errorf("%s: %+v, want %+v", rest, b, a)
		}
	}
	// Start of one that is up leaves all as it is, too.
	a, b := ran(t, ahead), ran(t, join(ahead, acts("start 0; start 1; start 2")))
	if !same(a, b) {
		t.Errorf("%+v, want %+v", b, a)
	}
}

// P8.3: what comes to one that is down is lost.
func TestMessagesToOneThatIsDown(t *testing.T) {
	nodes(t, acts("stand 0; crash 1 0; sync 0; flow; start 1; sync 1; sync 2"), "0:0 | 0:0 | 0:0", 1)
	nodes(t, acts("stand 0; crash 1 0; sync 0; take 0; start 1; take 0; sync 1; sync 2"), "0:0 | 0:0 | 0:0", 1)
	nodes(t, acts("stand 0; crash 1 0; start 1; sync 0; flow; sync 1; sync 2"), "0:0 | 0:0 | 0:0", 2)
}

// The same acts, the same outcome; nothing is kept from script to script.
func TestNothingIsKept(t *testing.T) {
	d := &drawer{die: 77}
	l := d.script(withClient, 100, 600, d.calm)
	a := ran(t, l)
	if o := ran(t, nil); !same(o, ran(t, []api.Act{})) || len(o.Told) != 0 || o.Nodes[0].Term != 0 {
		t.Errorf("%+v", o)
	}
	if b := ran(t, l); !same(a, b) {
		t.Errorf("%+v, and then %+v", a, b)
	}
}
