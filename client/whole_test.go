package client_test

import (
	"testing"

	"rostrum/api"
	"rostrum/client"
	"rostrum/store"
)

// roomy: a list with the same elements, and spare room that is marked.
func roomy[T any](l []T, mark T) []T {
	return append(append(make([]T, 0, 3*len(l)+3), l...), mark)[:len(l)]
}

// roomyMachine: the same machine, with marked room behind each list.
func roomyMachine(m api.Machine) api.Machine {
	m.Store.Entries = roomy(m.Store.Entries, entry("spare", list("spare"), 7))
	for i := range m.Store.Entries {
		v := &m.Store.Entries[i].Value
		v.Pairs = roomy(v.Pairs, api.Pair{Field: "spare"})
		v.Items = roomy(v.Items, "spare")
		v.Scores = roomy(v.Scores, api.Score{Member: "spare"})
	}
	m.Clients = roomy(m.Clients, known(7, 7, 7, listed("spare")))
	for i := range m.Clients {
		m.Clients[i].Reply.List = roomy(m.Clients[i].Reply.List, "spare")
	}
	return m
}

// variety: machines with none, some and all clients, and one that may not be.
func variety() []api.Machine {
	s := at(2, entry("a", text("x"), 5), entry("b", api.Value{Kind: api.Hash, Pairs: []api.Pair{{Field: "f", Text: "x"}}}, 0),
		entry("k", list("x", "y"), 0), entry("r", api.Value{Kind: api.Rank, Scores: []api.Score{{Member: "x", N: 1}}}, 5))
	one, two := known(1, 1, 0, listed("x", "y")), known(2, 2, 1, listed("z"))
	three, four := known(3, 0, 0, api.Reply{}), known(4, 3, 2, said("x"))
	return []api.Machine{
		client.New(), machine(s, 9), machine(s, 9, one, two), machine(s, 9, one, two, three, four),
		machine(s, api.MaxNumber+1, one, two, three, four), machine(s, 2, one, two),
	}
}

// Lists that are handed in are not changed, and nothing of an answer is shared.
func TestListsAreNotShared(t *testing.T) {
	calls := []api.Call{newcomer, {Seq: 1}, call(1, 0, keys), call(9, 1, keys)}
	for id := 1; id <= 4; id++ {
		for seq := 1; seq <= 4; seq++ {
			for _, c := range []api.Command{keys, plain(api.All, "k"), with(api.Push, "k", "z"), with(api.Put, "c", "z"), plain(api.Del, "k"), plain(api.Get, "k")} {
				calls = append(calls, call(id, seq, c))
			}
		}
	}
	for _, m := range variety() {
		for _, time := range []int{-1, 0, 5} {
			for _, c := range calls {
				in := roomyMachine(m)
				before := whole(in)
				out, r, _ := client.Do(in, time, c)
				if whole(in) != before {
					t.Errorf("%+v changes what is handed in", c)
				}
				if shares(in, out, r) {
					t.Errorf("%+v shares lists: %+v %+v", c, out, r)
				}
			}
		}
		in := roomyMachine(m)
		before := whole(in)
		client.Check(in)
		for _, x := range in.Clients {
			client.CheckReply(x.Reply)
		}
		if whole(in) != before {
			t.Errorf("a check changes %+v", m)
		}
	}
}

// Two answers to the same are the same, and share nothing.
func TestAskedAgain(t *testing.T) {
	for _, m := range variety() {
		for _, c := range []api.Call{newcomer, call(1, 1, keys), call(1, 2, keys), call(2, 3, plain(api.All, "k"))} {
			a, r, e := client.Do(m, 3, c)
			b, q, f := client.Do(m, 3, c)
			if e != f || !sameMachine(a, b) || !sameReply(r, q) {
				t.Errorf("%+v: %+v %+v %d, then %+v %+v %d", c, a, r, int(e), b, q, int(f))
			}
			if shares(a, b, q) || shares(r, b, q) {
				t.Errorf("%+v: two answers share lists", c)
			}
		}
	}
}

// model: what a machine should be, kept in a way of its own: the clients that are there, by their Ids, unordered.
type model struct {
	s     api.Store
	next  int
	there map[int]api.Client
}

// oldest client; of the same Time the one with the least Id.
func (m *model) oldest() int {
	best := 0
	for id, x := range m.there {
		if y := m.there[best]; best == 0 || x.Time < y.Time || x.Time == y.Time && id < best {
			best = id
		}
	}
	return best
}

func (m *model) machine() api.Machine {
	var l []api.Client
	for id := 1; id < m.next; id++ {
		if x, ok := m.there[id]; ok {
			l = append(l, x)
		}
	}
	return machine(m.s, m.next, l...)
}

func (m *model) do(time int, c api.Call) api.Reply {
	if time > m.s.Now {
		m.s, _, _ = store.Apply(m.s, time, keys)
	}
	if c.Client == 0 {
		if len(m.there) == api.MaxClients {
			delete(m.there, m.oldest())
		}
		m.there[m.next] = known(m.next, 0, m.s.Now, api.Reply{})
		m.next++
		return told(m.next - 1)
	}
	x, ok := m.there[c.Client]
	switch {
	case !ok:
		return code(api.ErrGone)
	case c.Seq == x.Seq:
		return x.Reply
	case c.Seq != x.Seq+1:
		return code(api.ErrOrder)
	}
	s, r, _ := store.Apply(m.s, time, c.Command)
	m.s = s
	m.there[c.Client] = known(c.Client, c.Seq, s.Now, r)
	return r
}

// die: numbers that look drawn, the same each time.
type die uint64

func (d *die) n(most int) int {
	*d = *d*6364136223846793005 + 1442695040888963407
	return int(uint64(*d>>33) % uint64(most))
}

func (d *die) command() api.Command {
	key := texts(14)[d.n(14)]
	switch d.n(7) {
	case 0:
		return num(api.Add, key, d.n(9)-4)
	case 1:
		return with(api.Push, key, []string{"", "x", "yy"}[d.n(3)])
	case 2:
		return plain(api.Pop, key)
	case 3:
		return num(api.Expire, key, d.n(30))
	case 4:
		return plain(api.All, key)
	case 5:
		return with(api.Put, key, "x")
	}
	return keys
}

// call that looks drawn: mostly of a client that is there, and mostly its next or its last one.
func (d *die) call(m api.Machine) api.Call {
	if d.n(12) == 0 || len(m.Clients) == 0 {
		return newcomer
	}
	if d.n(12) == 0 {
		return call(1+d.n(m.Next+2), 1+d.n(5), d.command())
	}
	x := m.Clients[d.n(len(m.Clients))]
	seq := x.Seq + []int{1, 1, 1, 1, 0, 0, -1, 2}[d.n(8)]
	return call(x.Id, max(1, seq), d.command())
}

// Whatever is called, a machine may be; and a call that is made twice is done once, and told the same.
func TestDrawn(t *testing.T) {
	for seed := range 20 {
		d := die(seed)
		m := client.New()
		o := &model{next: 1, there: map[int]api.Client{}}
		time := 0
		for step := range 400 {
			time = max(0, time+d.n(5)-1)
			c := d.call(m)
			want := o.do(time, c)
			u, r, e := client.Do(m, time, c)
			if e != api.OK || !sameMachine(u, o.machine()) || !sameReply(r, want) {
				t.Fatalf("seed %d, step %d: %+v at %d with %+v:\ngot  %+v %+v %d\nwant %+v %+v", seed, step, c, time, m, u, r, int(e), o.machine(), want)
			}
			if e := client.Check(u); e != api.OK {
				t.Fatalf("seed %d, step %d: %+v may not be", seed, step, u)
			}
			if e := client.CheckReply(r); e != api.OK {
				t.Fatalf("seed %d, step %d: the reply %+v may not be", seed, step, r)
			}
			again, q, e := client.Do(u, time, c)
			if c.Client != 0 && (e != api.OK || !sameMachine(again, u) || !sameReply(q, r)) {
				t.Fatalf("seed %d, step %d: %+v made twice:\ngot  %+v %+v %d\nwant %+v %+v", seed, step, c, again, q, int(e), u, r)
			}
			m = u
		}
	}
}
