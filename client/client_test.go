package client_test

import (
	"math"
	"testing"

	"rostrum/api"
	"rostrum/client"
)

// P3.4: a new machine.
func TestNew(t *testing.T) {
	m := client.New()
	if !sameMachine(m, api.Machine{Next: 1}) {
		t.Errorf("%+v", m)
	}
	if e := client.Check(m); e != api.OK {
		t.Errorf("it may not be: %d", int(e))
	}
}

// P3.5: what is refused, the first error named, and nothing else with it.
func TestRefused(t *testing.T) {
	good := machine(at(3, entry("k", text("x"), 0)), 2, known(1, 1, 2, told(1)))
	bad := machine(at(3), 2, known(1, 1, 4, told(1)))
	get := call(1, 2, plain(api.Get, "k"))
	tooLong := long(api.MaxKey + 1)
	for i, c := range []struct {
		m    api.Machine
		time int
		c    api.Call
		want api.Errno
	}{
		{bad, 3, get, api.ErrState}, {bad, 4, get, api.ErrState}, {bad, -1, get, api.ErrState}, {bad, -1, api.Call{Seq: 1}, api.ErrState},
		{bad, 3, call(1, 0, keys), api.ErrState}, {api.Machine{}, 0, newcomer, api.ErrState}, {machine(at(-1), 1), 0, newcomer, api.ErrState},
		{machine(at(3, entry("k", text("x"), 3)), 1), 5, newcomer, api.ErrState},
		{good, -1, get, api.ErrRange}, {good, api.MaxTime + 1, get, api.ErrRange}, {good, math.MinInt, get, api.ErrRange},
		{good, math.MaxInt, newcomer, api.ErrRange}, {good, -1, newcomer, api.ErrRange},
		{good, -1, api.Call{Seq: 1}, api.ErrRange}, {good, -1, call(1, 2, api.Command{}), api.ErrRange},
		{good, 3, api.Call{Seq: 1}, api.ErrForm}, {good, 3, call(0, 0, keys), api.ErrForm}, {good, 3, call(0, 1, api.Command{}), api.ErrForm},
		{good, 3, call(-1, 1, keys), api.ErrRange}, {good, 3, call(1, 0, keys), api.ErrRange}, {good, 3, call(1, api.MaxNumber+1, keys), api.ErrRange},
		{good, 3, call(api.MaxNumber+1, 1, keys), api.ErrRange}, {good, 3, call(1, -1, api.Command{}), api.ErrRange},
		{good, 3, call(1, 2, api.Command{}), api.ErrKind}, {good, 3, call(1, 2, plain(api.Keys, "k")), api.ErrForm},
		{good, 3, call(1, 2, plain(api.Get, tooLong)), api.ErrSize}, {good, 3, call(1, 2, num(api.Add, "k", math.MaxInt)), api.ErrRange},
		// A call may not be, whether or not it would be done: of the last Seq, of a wrong one, of a client that is not there.
		{good, 3, call(1, 1, api.Command{}), api.ErrKind}, {good, 3, call(1, 7, api.Command{}), api.ErrKind}, {good, 3, call(5, 1, api.Command{}), api.ErrKind},
	} {
		m, r, e := client.Do(c.m, c.time, c.c)
		if e != c.want || !sameMachine(m, api.Machine{}) || !sameReply(r, api.Reply{}) {
			t.Errorf("case %d: %+v %+v %d, want nothing and %d", i, m, r, int(e), int(c.want))
		}
	}
}

// P3.5: the store's time goes on first, whatever is told; and never back.
func TestTimeGoesOn(t *testing.T) {
	k := entry("k", text("x"), 0)
	s := func(now int) api.Store { return at(now, entry("a", text("x"), 6), k) }
	one := known(1, 1, 2, told(9))
	top := api.MaxNumber + 1
	done(t, []deed{
		{machine(s(3), 2, one), 6, newcomer, machine(at(6, k), 3, one, known(2, 0, 6, api.Reply{})), told(2)},
		{machine(s(3), top, one), 6, newcomer, machine(at(6, k), top, one), code(api.ErrFull)},
		{machine(s(3), 2, one), 6, call(5, 1, keys), machine(at(6, k), 2, one), code(api.ErrGone)},
		{machine(s(3), 2, one), 6, call(1, 1, keys), machine(at(6, k), 2, one), told(9)},
		{machine(s(3), 2, one), 6, call(1, 3, keys), machine(at(6, k), 2, one), code(api.ErrOrder)},
		{machine(s(3), 2, one), 6, call(1, 2, keys), machine(at(6, k), 2, known(1, 2, 6, listed("k"))), listed("k")},
		{machine(s(3), 2, one), 5, call(1, 2, keys), machine(s(5), 2, known(1, 2, 5, listed("a", "k"))), listed("a", "k")},
		{machine(s(3), 2, one), 1, call(1, 2, keys), machine(s(3), 2, known(1, 2, 3, listed("a", "k"))), listed("a", "k")},
		{machine(s(3), 2, one), 0, newcomer, machine(s(3), 3, one, known(2, 0, 3, api.Reply{})), told(2)},
		{machine(s(3), 2, one), 0, call(1, 1, keys), machine(s(3), 2, one), told(9)},
		{machine(s(3), 2, one), api.MaxTime, newcomer, machine(at(api.MaxTime, k), 3, one, known(2, 0, api.MaxTime, api.Reply{})), told(2)},
		{machine(at(api.MaxTime), 2, one), 0, call(1, 2, keys), machine(at(api.MaxTime), 2, known(1, 2, api.MaxTime, api.Reply{})), api.Reply{}},
	})
}

// P3.5: somebody who would be a client is one, while there is room.
func TestNewcomers(t *testing.T) {
	a, b, c := known(3, 4, 2, said("x")), known(5, 0, 1, api.Reply{}), known(6, 1, 2, code(api.ErrNone))
	done(t, []deed{
		{client.New(), 0, newcomer, machine(at(0), 2, known(1, 0, 0, api.Reply{})), told(1)},
		{client.New(), 4, newcomer, machine(at(4), 2, known(1, 0, 4, api.Reply{})), told(1)},
		{machine(at(2), 7), 2, newcomer, machine(at(2), 8, known(7, 0, 2, api.Reply{})), told(7)},
		{machine(at(2), 9, a), 3, newcomer, machine(at(3), 10, a, known(9, 0, 3, api.Reply{})), told(9)},
		{machine(at(2), 9, a, b, c), 3, newcomer, machine(at(3), 10, a, b, c, known(9, 0, 3, api.Reply{})), told(9)},
	})
}

// P3.5: are there MaxClients, the first one with the least Time goes.
func TestNewcomersWithoutRoom(t *testing.T) {
	ids := []int{2, 3, 5, 8}
	for _, c := range []struct {
		times [api.MaxClients]int
		goes  int
	}{
		{[...]int{1, 2, 3, 4}, 0}, {[...]int{4, 3, 2, 1}, 3}, {[...]int{4, 1, 2, 3}, 1}, {[...]int{4, 3, 1, 2}, 2},
		{[...]int{5, 5, 5, 5}, 0}, {[...]int{5, 4, 4, 4}, 1}, {[...]int{5, 4, 5, 4}, 1}, {[...]int{4, 5, 4, 5}, 0},
		{[...]int{5, 5, 4, 4}, 2}, {[...]int{0, 0, 0, 0}, 0}, {[...]int{1, 0, 1, 0}, 1}, {[...]int{9, 9, 9, 8}, 3},
	} {
		m := machine(at(9), 9)
		want := machine(at(10), 10)
		for i, id := range ids {
			// The Seqs fall, and the replies differ: only the Time counts.
			x := known(id, 9-i, c.times[i], told(i))
			m.Clients = append(m.Clients, x)
			if i != c.goes {
				want.Clients = append(want.Clients, x)
			}
		}
		want.Clients = append(want.Clients, known(9, 0, 10, api.Reply{}))
		done(t, []deed{{m, 10, newcomer, want, told(9)}})
		gone := ids[c.goes]
		done(t, []deed{{want, 10, call(gone, 1, keys), want, code(api.ErrGone)}})
	}
	first, last := known(1, 0, 0, api.Reply{}), known(4, 0, api.MaxTime, api.Reply{})
	b, c := known(2, 0, api.MaxTime, api.Reply{}), known(3, 0, 1, api.Reply{})
	late := at(api.MaxTime)
	done(t, []deed{{machine(late, 5, first, b, c, last), 0, newcomer, machine(late, 6, b, c, last, known(5, 0, api.MaxTime, api.Reply{})), told(5)}})
}

// P3.5: the last number of a client, and that there is none above it.
func TestNewcomersAtTheLastNumber(t *testing.T) {
	top := api.MaxNumber
	four := idle(1, 2, 3, 4)
	made := known(top, 0, 0, api.Reply{})
	done(t, []deed{
		{machine(at(0), top), 0, newcomer, machine(at(0), top+1, made), told(top)},
		{machine(at(0), top, four...), 0, newcomer, machine(at(0), top+1, append(idle(2, 3, 4), made)...), told(top)},
		{machine(at(0), top-1), 0, newcomer, machine(at(0), top, known(top-1, 0, 0, api.Reply{})), told(top - 1)},
		{machine(at(0), top+1), 0, newcomer, machine(at(0), top+1), code(api.ErrFull)},
		{machine(at(0), top+1, made), 4, newcomer, machine(at(4), top+1, made), code(api.ErrFull)},
		// Nobody goes for one who can't come.
		{machine(at(0), top+1, four...), 4, newcomer, machine(at(4), top+1, four...), code(api.ErrFull)},
		{machine(at(0), top+1, made), 4, call(top, 1, keys), machine(at(4), top+1, known(top, 1, 4, api.Reply{})), api.Reply{}},
	})
}

// P3.5: a client that is not there, or not any more.
func TestGone(t *testing.T) {
	m := machine(at(0), 9, idle(2, 4, 8)...)
	for _, id := range []int{1, 3, 5, 7, 9, 10, api.MaxNumber} {
		for _, seq := range []int{1, 2, api.MaxNumber} {
			done(t, []deed{{m, 0, call(id, seq, with(api.Put, "k", "x")), m, code(api.ErrGone)}})
		}
	}
	done(t, []deed{{client.New(), 4, call(1, 1, keys), machine(at(4), 1), code(api.ErrGone)}})
}

// P3.5: the last Seq, one more, two more, one less.
func TestSeqs(t *testing.T) {
	put := with(api.Put, "k", "x")
	k := entry("k", text("x"), 0)
	top := api.MaxNumber
	m := func(seq int) api.Machine {
		return machine(at(3), 4, known(1, 9, 1, said("a")), known(2, seq, 2, said("kept")), known(3, 5, 3, said("c")))
	}
	next := func(seq int) api.Machine {
		return machine(at(3, k), 4, known(1, 9, 1, said("a")), known(2, seq, 3, api.Reply{}), known(3, 5, 3, said("c")))
	}
	done(t, []deed{
		{m(4), 3, call(2, 4, put), m(4), said("kept")},
		{m(4), 3, call(2, 5, put), next(5), api.Reply{}},
		{m(4), 3, call(2, 6, put), m(4), code(api.ErrOrder)},
		{m(4), 3, call(2, 3, put), m(4), code(api.ErrOrder)},
		{m(4), 3, call(2, 1, put), m(4), code(api.ErrOrder)},
		{m(4), 3, call(2, top, put), m(4), code(api.ErrOrder)},
		{m(0), 3, call(2, 1, put), next(1), api.Reply{}},
		{m(0), 3, call(2, 2, put), m(0), code(api.ErrOrder)},
		{m(0), 3, call(2, top, put), m(0), code(api.ErrOrder)},
		{m(1), 3, call(2, 1, put), m(1), said("kept")},
		{m(top - 1), 3, call(2, top, put), next(top), api.Reply{}},
		{m(top), 3, call(2, top, put), m(top), said("kept")},
		{m(top), 3, call(2, top-1, put), m(top), code(api.ErrOrder)},
		{m(top), 3, call(2, 1, put), m(top), code(api.ErrOrder)},
	})
}

// P3.5: a call of the last Seq is told the reply of that, whatever it asks, and nothing is done; its Time stays.
func TestMadeTwice(t *testing.T) {
	l := []api.Reply{{}, told(-3), said("x"), code(api.ErrType), listed("b", "a"), {Code: api.ErrNone, Text: "t", N: 5, List: []string{"l"}}}
	for _, r := range l {
		m := machine(at(3, entry("k", list("x"), 0)), 2, known(1, 4, 2, r))
		for _, c := range []api.Command{with(api.Push, "k", "y"), plain(api.Pop, "k"), plain(api.Del, "k"), keys, num(api.Expire, "k", 1)} {
			later := m
			later.Store.Now = 8
			done(t, []deed{{m, 3, call(1, 4, c), m, r}, {m, 8, call(1, 4, c), later, r}})
		}
	}
}

// P3.5: the command is done, and the client keeps what it is told, be that an error too.
func TestDone(t *testing.T) {
	k, n := entry("k", list("x", "y"), 0), entry("n", count(4), 9)
	other := known(1, 7, 0, said("o"))
	for i, c := range []struct {
		c    api.Command
		want api.Store
		r    api.Reply
	}{
		{with(api.Put, "a", "z"), at(5, entry("a", text("z"), 0), k, n), api.Reply{}},
		{num(api.Add, "n", 3), at(5, k, entry("n", count(7), 9)), told(7)},
		{with(api.Push, "k", "z"), at(5, entry("k", list("x", "y", "z"), 0), n), told(3)},
		{plain(api.Shift, "k"), at(5, entry("k", list("y"), 0), n), said("x")},
		{plain(api.All, "k"), at(5, k, n), listed("x", "y")},
		{keys, at(5, k, n), listed("k", "n")},
		{plain(api.Del, "k"), at(5, n), told(1)},
		{num(api.Expire, "k", 2), at(5, entry("k", list("x", "y"), 7), n), api.Reply{}},
		{plain(api.Life, "n"), at(5, k, n), told(4)},
		{plain(api.Get, "k"), at(5, k, n), code(api.ErrType)},
		{plain(api.Get, "a"), at(5, k, n), code(api.ErrNone)},
		{num(api.Add, "n", api.MaxCount), at(5, k, n), code(api.ErrOver)},
		{num(api.Expire, "k", 0), at(5, k, n), code(api.ErrRange)},
	} {
		m := machine(at(2, k, n), 3, other, known(2, 1, 1, listed("old")))
		want := machine(c.want, 3, other, known(2, 2, 5, c.r))
		done(t, []deed{
			{m, 5, call(2, 2, c.c), want, c.r},
			{want, 5, call(2, 2, c.c), want, c.r},
		})
		if e := client.Check(want); e != api.OK {
			t.Errorf("case %d: what is wanted may not be", i)
		}
	}
}
