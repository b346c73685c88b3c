package client_test

import (
	"math"
	"testing"

	"rostrum/api"
	"rostrum/client"
)

// P3.1: each Code of an error, and no other one.
func TestCodesOfReplies(t *testing.T) {
	for e := api.OK; e <= api.ErrState; e++ {
		if got := client.CheckReply(code(e)); got != api.OK {
			t.Errorf("code %d: %d", int(e), int(got))
		}
	}
	for _, e := range []api.Errno{-1, api.ErrState + 1, math.MinInt, math.MaxInt} {
		if got := client.CheckReply(code(e)); got != api.ErrKind {
			t.Errorf("code %d: %d", int(e), int(got))
		}
	}
}

// P3.1: sizes and numbers of replies, and which error is named first.
func TestReplies(t *testing.T) {
	most, over := long(api.MaxText), long(api.MaxText+1)
	for i, c := range []struct {
		r    api.Reply
		want api.Errno
	}{
		{api.Reply{}, api.OK}, {api.Reply{List: []string{}}, api.OK},
		{api.Reply{Code: api.ErrNone, Text: "x", N: 1, List: []string{"b", "a", ""}}, api.OK},
		{said(most), api.OK}, {said(over), api.ErrSize},
		{listed(texts(api.MaxItems)...), api.OK}, {listed(texts(api.MaxItems + 1)...), api.ErrSize},
		{listed(make([]string, api.MaxItems)...), api.OK}, {listed(make([]string, api.MaxItems+1)...), api.ErrSize},
		{listed("a", most, "a"), api.OK}, {listed(over), api.ErrSize}, {listed("a", over), api.ErrSize}, {listed(over, "a"), api.ErrSize},
		{told(api.MaxCount), api.OK}, {told(-api.MaxCount), api.OK},
		{told(api.MaxCount + 1), api.ErrRange}, {told(-api.MaxCount - 1), api.ErrRange},
		{told(math.MaxInt), api.ErrRange}, {told(math.MinInt), api.ErrRange},
		{api.Reply{Code: -1, Text: over, N: math.MaxInt}, api.ErrKind},
		{api.Reply{Code: 14, List: []string{over}}, api.ErrKind}, {api.Reply{Code: 14, N: math.MinInt}, api.ErrKind},
		{api.Reply{Text: over, N: math.MaxInt}, api.ErrSize}, {api.Reply{List: []string{over}, N: math.MaxInt}, api.ErrSize},
		{api.Reply{List: texts(api.MaxItems + 1), N: math.MinInt}, api.ErrSize},
	} {
		if e := client.CheckReply(c.r); e != c.want {
			t.Errorf("case %d: %+v: %d, want %d", i, c.r, int(e), int(c.want))
		}
	}
}

type callCase struct {
	c    api.Call
	want api.Errno
}

func checkedCalls(t *testing.T, l []callCase) {
	t.Helper()
	for i, c := range l {
		if e := client.CheckCall(c.c); e != c.want {
			t.Errorf("case %d: %+v: %d, want %d", i, c.c, int(e), int(c.want))
		}
	}
}

// P3.2: who would be a client has nothing else.
func TestCallsOfNewcomers(t *testing.T) {
	checkedCalls(t, []callCase{
		{newcomer, api.OK},
		{api.Call{Seq: 1}, api.ErrForm}, {api.Call{Seq: -1}, api.ErrForm}, {api.Call{Seq: math.MaxInt}, api.ErrForm},
		{call(0, 0, keys), api.ErrForm}, {call(0, 0, api.Command{Kind: -1}), api.ErrForm},
		{call(0, 0, api.Command{Key: "k"}), api.ErrForm}, {call(0, 0, api.Command{Field: "f"}), api.ErrForm},
		{call(0, 0, api.Command{Text: "x"}), api.ErrForm}, {call(0, 0, api.Command{N: 1}), api.ErrForm},
		{call(0, 1, plain(api.Get, "k")), api.ErrForm}, {call(0, 0, num(api.Add, "", math.MaxInt)), api.ErrForm},
	})
}

// P3.2: numbers of clients and calls, then the command.
func TestCallsOfClients(t *testing.T) {
	get := plain(api.Get, "k")
	most := api.MaxNumber
	checkedCalls(t, []callCase{
		{call(1, 1, get), api.OK}, {call(most, most, get), api.OK}, {call(1, most, keys), api.OK}, {call(most, 1, keys), api.OK},
		{call(1, 0, get), api.ErrRange}, {call(1, -1, get), api.ErrRange}, {call(-1, 1, get), api.ErrRange},
		{call(most+1, 1, get), api.ErrRange}, {call(1, most+1, get), api.ErrRange},
		{call(math.MinInt, 1, get), api.ErrRange}, {call(math.MaxInt, 1, get), api.ErrRange},
		{call(1, math.MinInt, get), api.ErrRange}, {call(1, math.MaxInt, get), api.ErrRange},
		{call(-1, 0, api.Command{}), api.ErrRange}, {call(1, 0, api.Command{}), api.ErrRange}, {call(-1, 1, plain(api.Get, "")), api.ErrRange},
		{call(1, 1, api.Command{}), api.ErrKind}, {call(1, 1, plain(api.Keys+1, "k")), api.ErrKind},
		{call(1, 1, plain(api.Keys, "k")), api.ErrForm}, {call(1, 1, with(api.Get, "k", "x")), api.ErrForm},
		{call(1, 1, plain(api.Get, "")), api.ErrSize}, {call(1, 1, with(api.Put, "k", long(api.MaxText+1))), api.ErrSize},
		{call(1, 1, num(api.Add, "k", api.MaxCount+1)), api.ErrRange},
	})
}

type machineCase struct {
	m    api.Machine
	want api.Errno
}

func checked(t *testing.T, l []machineCase) {
	t.Helper()
	for i, c := range l {
		if e := client.Check(c.m); e != c.want {
			t.Errorf("case %d: %+v: %d, want %d", i, c.m, int(e), int(c.want))
		}
	}
}

// P3.3: the store of a machine may be.
func TestStoresOfMachines(t *testing.T) {
	x := text("x")
	checked(t, []machineCase{
		{machine(at(0), 1), api.OK}, {machine(at(api.MaxTime), 1), api.OK},
		{machine(at(3, entry("k", x, 4)), 1), api.OK},
		{machine(at(-1), 1), api.ErrState}, {machine(at(api.MaxTime+1), 1), api.ErrState},
		{machine(at(3, entry("k", x, 3)), 1), api.ErrState}, {machine(at(3, entry("", x, 0)), 1), api.ErrState},
		{machine(at(3, entry("b", x, 0), entry("a", x, 0)), 1), api.ErrState},
		{machine(at(3, entry("k", api.Value{}, 0)), 1), api.ErrState},
	})
}

// P3.3: Next.
func TestNextOfMachines(t *testing.T) {
	for _, n := range []int{1, 2, api.MaxNumber, api.MaxNumber + 1} {
		checked(t, []machineCase{{machine(at(0), n), api.OK}})
	}
	for _, n := range []int{0, -1, api.MaxNumber + 2, math.MinInt, math.MaxInt} {
		checked(t, []machineCase{{machine(at(0), n), api.ErrState}})
	}
	checked(t, []machineCase{{api.Machine{}, api.ErrState}, {client.New(), api.OK}})
}

// idle clients with these Ids.
func idle(ids ...int) []api.Client {
	var l []api.Client
	for _, id := range ids {
		l = append(l, known(id, 0, 0, api.Reply{}))
	}
	return l
}

// P3.3: how many clients there are, and their Ids.
func TestIdsOfMachines(t *testing.T) {
	top := api.MaxNumber
	for _, c := range []struct {
		next int
		ids  []int
		want api.Errno
	}{
		{9, []int{1, 2, 3, 4}, api.OK}, {9, []int{1, 2, 3, 4, 5}, api.ErrState}, {5, []int{1, 2, 3, 4}, api.OK},
		{9, []int{2, 5, 8}, api.OK}, {9, []int{2, 5, 9}, api.ErrState}, {9, []int{10}, api.ErrState},
		{9, []int{1}, api.OK}, {9, []int{0}, api.ErrState}, {9, []int{-1}, api.ErrState}, {9, []int{math.MinInt}, api.ErrState},
		{1, []int{1}, api.ErrState}, {1, []int{0}, api.ErrState}, {2, []int{1}, api.OK},
		{9, []int{0, 1}, api.ErrState}, {9, []int{-1, 1}, api.ErrState},
		{9, []int{2, 1}, api.ErrState}, {9, []int{1, 1}, api.ErrState}, {9, []int{1, 3, 2}, api.ErrState},
		{9, []int{3, 1, 4}, api.ErrState}, {9, []int{1, 2, 4, 4}, api.ErrState}, {9, []int{1, 1, 2}, api.ErrState},
		{top + 1, []int{1, top}, api.OK}, {top, []int{1, top}, api.ErrState},
		{top + 1, []int{top + 1}, api.ErrState}, {top + 1, []int{math.MaxInt}, api.ErrState},
	} {
		checked(t, []machineCase{{machine(at(0), c.next, idle(c.ids...)...), c.want}})
	}
}

// P3.3: the last calls of clients: which, when, and what was told. One that may not be is found wherever it stands.
func TestClientsOfMachines(t *testing.T) {
	now := 7
	for _, c := range []struct {
		seq, time int
		r         api.Reply
		want      api.Errno
	}{
		{0, 0, api.Reply{}, api.OK}, {0, 7, said("x"), api.OK}, {api.MaxNumber, 7, code(api.ErrState), api.OK},
		{-1, 0, api.Reply{}, api.ErrState}, {api.MaxNumber + 1, 0, api.Reply{}, api.ErrState},
		{math.MinInt, 0, api.Reply{}, api.ErrState}, {math.MaxInt, 0, api.Reply{}, api.ErrState},
		{1, -1, api.Reply{}, api.ErrState}, {1, 8, api.Reply{}, api.ErrState},
		{1, math.MinInt, api.Reply{}, api.ErrState}, {1, math.MaxInt, api.Reply{}, api.ErrState}, {1, api.MaxTime, api.Reply{}, api.ErrState},
		{1, 1, code(api.ErrState + 1), api.ErrState}, {1, 1, code(-1), api.ErrState},
		{1, 1, said(long(api.MaxText + 1)), api.ErrState}, {1, 1, listed(texts(api.MaxItems + 1)...), api.ErrState},
		{1, 1, listed("a", long(api.MaxText+1)), api.ErrState}, {1, 1, told(api.MaxCount + 1), api.ErrState},
	} {
		good := func(id int) api.Client { return known(id, 3, now, told(1)) }
		checked(t, []machineCase{
			{machine(at(now), 9, known(4, c.seq, c.time, c.r)), c.want},
			{machine(at(now), 9, known(4, c.seq, c.time, c.r), good(5), good(6)), c.want},
			{machine(at(now), 9, good(1), known(4, c.seq, c.time, c.r), good(6)), c.want},
			{machine(at(now), 9, good(1), good(2), known(4, c.seq, c.time, c.r)), c.want},
		})
	}
	late := api.MaxTime
	checked(t, []machineCase{
		{machine(at(late), 2, known(1, 1, late, api.Reply{})), api.OK},
		{machine(at(late), 2, known(1, 1, late+1, api.Reply{})), api.ErrState},
		{machine(at(0), 2, known(1, 1, 1, api.Reply{})), api.ErrState},
	})
}
