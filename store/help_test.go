package store_test

import (
	"fmt"
	"reflect"
	"strings"
	"testing"

	"rostrum/api"
	"rostrum/store"
)

// long: a text of n bytes.
func long(n int) string { return strings.Repeat("q", n) }

// texts: n of them, rising.
func texts(n int) []string {
	var l []string
	for i := range n {
		l = append(l, fmt.Sprintf("t%02d", i))
	}
	return l
}

func text(s string) api.Value    { return api.Value{Kind: api.Text, Text: s} }
func count(n int) api.Value      { return api.Value{Kind: api.Count, Count: n} }
func list(l ...string) api.Value { return api.Value{Kind: api.List, Items: l} }
func set(l ...string) api.Value  { return api.Value{Kind: api.Set, Items: l} }
func hash(f, s string) api.Value {
	return api.Value{Kind: api.Hash, Pairs: []api.Pair{{Field: f, Text: s}}}
}
func rank(s string, n int) api.Value {
	return api.Value{Kind: api.Rank, Scores: []api.Score{{Member: s, N: n}}}
}

func entry(key string, v api.Value, until int) api.Entry {
	return api.Entry{Key: key, Value: v, Until: until}
}

// at a time there are these entries.
func at(now int, l ...api.Entry) api.Store { return api.Store{Now: now, Entries: l} }

// full: a store with MaxKeys keys, the lists t00 to t11.
func full(now int) api.Store {
	s := api.Store{Now: now}
	for _, k := range texts(api.MaxKeys) {
		s.Entries = append(s.Entries, entry(k, list("x"), 0))
	}
	return s
}

func told(n int) api.Reply         { return api.Reply{N: n} }
func said(s string) api.Reply      { return api.Reply{Text: s} }
func code(e api.Errno) api.Reply   { return api.Reply{Code: e} }
func listed(l ...string) api.Reply { return api.Reply{List: l} }

func plain(kind int, key string) api.Command   { return api.Command{Kind: kind, Key: key} }
func with(kind int, key, s string) api.Command { return api.Command{Kind: kind, Key: key, Text: s} }
func num(kind int, key string, n int) api.Command {
	return api.Command{Kind: kind, Key: key, N: n}
}

var keys = api.Command{Kind: api.Keys}

// plainLists: a store in which empty lists are nil.
func plainLists(s api.Store) api.Store {
	s.Entries = append([]api.Entry(nil), s.Entries...)
	for i := range s.Entries {
		v := &s.Entries[i].Value
		v.Pairs = append([]api.Pair(nil), v.Pairs...)
		v.Items = append([]string(nil), v.Items...)
		v.Scores = append([]api.Score(nil), v.Scores...)
	}
	return s
}

func sameStore(a, b api.Store) bool { return reflect.DeepEqual(plainLists(a), plainLists(b)) }

func sameReply(a, b api.Reply) bool {
	a.List = append([]string(nil), a.List...)
	b.List = append([]string(nil), b.List...)
	return reflect.DeepEqual(a, b)
}

// deed: a store, a time, a command, and what should come of them.
type deed struct {
	s    api.Store
	time int
	c    api.Command
	want api.Store
	r    api.Reply
}

// done: deeds that no error refuses.
func done(t *testing.T, l []deed) {
	t.Helper()
	for i, d := range l {
		s, r, e := store.Apply(d.s, d.time, d.c)
		if e != api.OK || !sameStore(s, d.want) || !sameReply(r, d.r) {
			t.Errorf("deed %d: %+v at %d with %+v:\ngot  %+v %+v %d\nwant %+v %+v 0", i, d.c, d.time, d.s, s, r, int(e), d.want, d.r)
		}
	}
}
