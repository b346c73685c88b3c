package store_test

import (
	"slices"
	"testing"

	"rostrum/api"
	"rostrum/store"
	"rostrum/value"
)

// roomy: a list with the same elements, and spare room that is marked.
func roomy[T any](l []T, mark T) []T {
	return append(append(make([]T, 0, 3*len(l)+3), l...), mark)[:len(l)]
}

// roomyStore: a store with the same entries, with marked room behind each list.
func roomyStore(s api.Store) api.Store {
	s.Entries = roomy(s.Entries, entry("spare", list("spare"), 7))
	for i := range s.Entries {
		v := &s.Entries[i].Value
		v.Pairs = roomy(v.Pairs, api.Pair{Field: "spare"})
		v.Items = roomy(v.Items, "spare")
		v.Scores = roomy(v.Scores, api.Score{Member: "spare"})
	}
	return s
}

// variety: a store with values of all kinds; some run out at 5.
func variety() api.Store {
	return at(1, entry("a", text("x"), 5), entry("b", count(1), 0), entry("c", hash("f", "x"), 0),
		entry("d", list("x", "y"), 0), entry("e", set("x", "y"), 9), entry("f", rank("x", 1), 5), entry("g", list("x"), 0))
}

// drawnCommands: each kind of command, for each of some keys.
func drawnCommands() []api.Command {
	l := []api.Command{keys}
	for kind := api.Put; kind <= api.Life; kind++ {
		for _, k := range []string{"a", "b", "c", "d", "e", "f", "g", "h"} {
			c := plain(kind, k)
			switch kind {
			case api.Put, api.Push, api.Front, api.SAdd, api.SRem, api.SHas, api.ZAdd, api.ZRem, api.ZRank:
				c.Text = "x"
			case api.HSet:
				c.Field, c.Text = "f", "z"
			case api.HGet, api.HDel:
				c.Field = "f"
			case api.Expire:
				c.N = 2
			}
			l = append(l, c)
		}
	}
	return l
}

// Lists that are handed in are not changed, and nothing of an answer is shared.
func TestListsAreNotShared(t *testing.T) {
	commands := append(drawnCommands(), api.Command{}, plain(api.Get, ""))
	for _, s := range []api.Store{{}, variety(), full(0), at(0, entry("a", list("x"), 3))} {
		for _, time := range []int{0, 5, 9} {
			for _, c := range commands {
				in := roomyStore(s)
				before := whole(in)
				out, r, _ := store.Apply(in, time, c)
				if whole(in) != before {
					t.Errorf("%+v changes what is handed in", c)
				}
				if shares(in, out, r) {
					t.Errorf("%+v shares lists: %+v", c, out)
				}
			}
		}
		in := roomyStore(s)
		before := whole(in)
		if store.Check(in); whole(in) != before {
			t.Errorf("Check changes %+v", s)
		}
	}
}

// model: what a store should be, kept in a way of its own: by keys, unordered, and what has run out lies there till it is looked for.
type model struct {
	now    int
	values map[string]api.Value
	until  map[string]int
}

func (m *model) sweep(time int) {
	if time > m.now {
		m.now = time
	}
	for k, u := range m.until {
		if u <= m.now {
			delete(m.until, k)
			delete(m.values, k)
		}
	}
}

func (m *model) names() []string {
	var l []string
	for k := range m.values {
		l = append(l, k)
	}
	slices.Sort(l)
	return l
}

func (m *model) store() api.Store {
	s := api.Store{Now: m.now}
	for _, k := range m.names() {
		s.Entries = append(s.Entries, entry(k, m.values[k], m.until[k]))
	}
	return s
}

func (m *model) forget(k string) {
	delete(m.values, k)
	delete(m.until, k)
}

func (m *model) do(c api.Command) api.Reply {
	v, there := m.values[c.Key]
	switch {
	case c.Kind == api.Keys:
		return listed(m.names()...)
	case c.Kind == api.Del && there:
		m.forget(c.Key)
		return told(1)
	case c.Kind == api.Del:
		return told(0)
	case (c.Kind == api.Life || c.Kind == api.Expire) && !there:
		return code(api.ErrNone)
	case c.Kind == api.Life && m.until[c.Key] == 0:
		return told(0)
	case c.Kind == api.Life:
		return told(m.until[c.Key] - m.now)
	case c.Kind == api.Expire && (c.N < 1 || m.now+c.N > api.MaxTime):
		return code(api.ErrRange)
	case c.Kind == api.Expire:
		m.until[c.Key] = m.now + c.N
		return api.Reply{}
	}
	w, r, _ := value.Do(v, c)
	switch {
	case r.Code != api.OK:
	case w.Kind == 0:
		m.forget(c.Key)
	case !there && len(m.values) == api.MaxKeys:
		return code(api.ErrFull)
	default:
		m.values[c.Key] = w
		if c.Kind == api.Put {
			delete(m.until, c.Key)
		}
	}
	return r
}

// die: numbers that look drawn, the same each time.
type die uint64

func (d *die) n(most int) int {
	*d = *d*6364136223846793005 + 1442695040888963407
	return int(uint64(*d>>33) % uint64(most))
}

// command that looks drawn; some make keys more often than others.
func (d *die) command() api.Command {
	c := api.Command{Kind: 1 + d.n(api.Keys)}
	if d.n(3) == 0 {
		c.Kind = []int{api.Put, api.Add, api.Push, api.Expire}[d.n(4)]
	}
	if c.Kind == api.Keys {
		return c
	}
	c.Key = texts(16)[d.n(16)]
	t := []string{"", "x", "yy"}[d.n(3)]
	switch c.Kind {
	case api.Put, api.Push, api.Front, api.SAdd, api.SRem, api.SHas, api.ZRem, api.ZRank:
		c.Text = t
	case api.Add, api.Expire:
		c.N = d.n(40) - 4
	case api.HSet:
		c.Field, c.Text = "f", t
	case api.HGet, api.HDel:
		c.Field = "f"
	case api.ZAdd:
		c.Text, c.N = t, d.n(5)-2
	}
	return c
}

// Whatever is done, a store may be, and what has run out is not there.
func TestDrawn(t *testing.T) {
	for seed := range 20 {
		d := die(seed)
		m := &model{values: map[string]api.Value{}, until: map[string]int{}}
		var s api.Store
		time := 0
		for step := range 600 {
			time = max(0, min(api.MaxTime, time+d.n(5)-1))
			if seed%4 == 3 && step == 300 {
				time = api.MaxTime - 200
			}
			c := d.command()
			m.sweep(time)
			want := m.do(c)
			u, r, e := store.Apply(s, time, c)
			if e != api.OK || !sameStore(u, m.store()) || !sameReply(r, want) {
				t.Fatalf("seed %d, step %d: %+v at %d with %+v:\ngot  %+v %+v %d\nwant %+v %+v", seed, step, c, time, s, u, r, int(e), m.store(), want)
			}
			if e := store.Check(u); e != api.OK {
				t.Fatalf("seed %d, step %d: %+v may not be", seed, step, u)
			}
			for _, x := range u.Entries {
				if x.Until != 0 && x.Until <= u.Now {
					t.Fatalf("seed %d, step %d: %+v has run out", seed, step, x)
				}
			}
			s = u
		}
	}
}
