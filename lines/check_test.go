package lines_test

import (
	"math"
	"testing"

	"rostrum/api"
	"rostrum/lines"
)

// checked: Check should answer that.
func checked(t *testing.T, a api.Act, want api.Errno) {
	t.Helper()
	if e := lines.Check(a); e != want {
		t.Errorf("%+v: %d, want %d", a, int(e), int(want))
	}
}

// P7.1
func TestActs(t *testing.T) {
	for _, a := range someActs() {
		checked(t, a, api.OK)
	}
	for node := range api.Nodes {
		for _, k := range []int{api.Ask, api.Stand, api.Work, api.Sync, api.Tick, api.Crash, api.Start, api.Trim} {
			checked(t, act(k, node, 0), api.OK)
		}
	}
	for _, pick := range []int{0, 1, api.MaxTape - 1, api.MaxTape} {
		for _, k := range []int{api.Tick, api.Take, api.Lose, api.Copy, api.Crash} {
			checked(t, act(k, 0, pick), api.OK)
		}
	}
}

// P7.1
func TestWrongActs(t *testing.T) {
	for _, x := range append(wrongActs(), oddActs()...) {
		checked(t, x.a, x.e)
	}
}

// P7.1: a kind that there is not is told ahead of all.
func TestKindsThatThereAreNot(t *testing.T) {
	for _, x := range append(wrongActs(), oddActs()...) {
		for _, k := range []int{0, -1, api.Flow + 1, math.MinInt, math.MaxInt} {
			x.a.Kind = k
			checked(t, x.a, api.ErrKind)
		}
	}
}

// P7.1: a Node or a Pick out of its bounds is told ahead of what the kind has not, and of what is wrong with a call.
func TestBoundsAreAskedFirst(t *testing.T) {
	for k := api.Ask; k <= api.Flow; k++ {
		for _, c := range []api.Call{{}, {Seq: 1}, call(1, 1, keys), call(-1, 1, keys), call(1, 1, api.Command{})} {
			for _, n := range outside(0, api.Nodes-1) {
				checked(t, api.Act{Kind: k, Node: n, Call: c}, api.ErrRange)
				checked(t, api.Act{Kind: k, Node: n, Pick: 1, Call: c}, api.ErrRange)
			}
			for _, n := range outside(0, api.MaxTape) {
				checked(t, api.Act{Kind: k, Pick: n, Call: c}, api.ErrRange)
				checked(t, api.Act{Kind: k, Node: 1, Pick: n, Call: c}, api.ErrRange)
			}
		}
	}
}

// P7.1: a Pick of an Ask is told ahead of what is wrong with its call.
func TestFormIsAskedAheadOfTheCall(t *testing.T) {
	for _, x := range append(wrongActs(), oddActs()...) {
		if x.a.Kind == api.Ask && x.a.Node >= 0 && x.a.Node < api.Nodes {
			x.a.Pick = 1
			checked(t, x.a, api.ErrForm)
		}
	}
}

// P7.1: of an Ask what is wrong with its call is told, the first fault first.
func TestFirstFaultOfCalls(t *testing.T) {
	long := run(api.MaxKey + 1)
	for _, x := range []refused{
		{ask(0, call(0, -1, api.Command{Kind: 99})), api.ErrForm},
		{ask(0, call(-1, 1, api.Command{Kind: 99})), api.ErrRange},
		{ask(0, call(1, 0, command(api.Get, "k", "", "t", 0))), api.ErrRange},
		{do(99, long, "", "", math.MaxInt), api.ErrKind},
		{do(api.Get, long, "f", "", 0), api.ErrForm},
		{do(api.Get, long, "", "", 1), api.ErrForm},
		{do(api.Add, long, "", "", math.MaxInt), api.ErrSize},
	} {
		checked(t, x.a, x.e)
	}
}
