package client_test

import (
	"fmt"
	"reflect"
	"strings"
	"testing"

	"rostrum/api"
	"rostrum/client"
)

// long: a text of n bytes.
func long(n int) string { return strings.Repeat("q", n) }

// texts: n of them, rising.
func texts(n int) []string {
	var l []string
	for i := range n {
		l = append(l, fmt.Sprintf("t%02d", i))
	}
	return l
}

func text(s string) api.Value    { return api.Value{Kind: api.Text, Text: s} }
func count(n int) api.Value      { return api.Value{Kind: api.Count, Count: n} }
func list(l ...string) api.Value { return api.Value{Kind: api.List, Items: l} }

func entry(key string, v api.Value, until int) api.Entry {
	return api.Entry{Key: key, Value: v, Until: until}
}

// at a time there are these entries.
func at(now int, l ...api.Entry) api.Store { return api.Store{Now: now, Entries: l} }

func told(n int) api.Reply         { return api.Reply{N: n} }
func said(s string) api.Reply      { return api.Reply{Text: s} }
func code(e api.Errno) api.Reply   { return api.Reply{Code: e} }
func listed(l ...string) api.Reply { return api.Reply{List: l} }

func plain(kind int, key string) api.Command   { return api.Command{Kind: kind, Key: key} }
func with(kind int, key, s string) api.Command { return api.Command{Kind: kind, Key: key, Text: s} }
func num(kind int, key string, n int) api.Command {
	return api.Command{Kind: kind, Key: key, N: n}
}

var keys = api.Command{Kind: api.Keys}

// newcomer: the call of somebody who would be a client.
var newcomer = api.Call{}

func call(id, seq int, c api.Command) api.Call { return api.Call{Client: id, Seq: seq, Command: c} }

func known(id, seq, time int, r api.Reply) api.Client {
	return api.Client{Id: id, Seq: seq, Time: time, Reply: r}
}

func machine(s api.Store, next int, l ...api.Client) api.Machine {
	return api.Machine{Store: s, Next: next, Clients: l}
}

// plainMachine: a machine in which empty lists are nil.
func plainMachine(m api.Machine) api.Machine {
	m.Store.Entries = append([]api.Entry(nil), m.Store.Entries...)
	for i := range m.Store.Entries {
		v := &m.Store.Entries[i].Value
		v.Pairs = append([]api.Pair(nil), v.Pairs...)
		v.Items = append([]string(nil), v.Items...)
		v.Scores = append([]api.Score(nil), v.Scores...)
	}
	m.Clients = append([]api.Client(nil), m.Clients...)
	for i := range m.Clients {
		m.Clients[i].Reply = plainReply(m.Clients[i].Reply)
	}
	return m
}

func plainReply(r api.Reply) api.Reply {
	r.List = append([]string(nil), r.List...)
	return r
}

func sameMachine(a, b api.Machine) bool { return reflect.DeepEqual(plainMachine(a), plainMachine(b)) }

func sameReply(a, b api.Reply) bool { return reflect.DeepEqual(plainReply(a), plainReply(b)) }

// deed: a machine, a time, a call, and what should come of them.
type deed struct {
	m    api.Machine
	time int
	c    api.Call
	want api.Machine
	r    api.Reply
}

// done: deeds that no error refuses.
func done(t *testing.T, l []deed) {
	t.Helper()
	for i, d := range l {
		m, r, e := client.Do(d.m, d.time, d.c)
		if e != api.OK || !sameMachine(m, d.want) || !sameReply(r, d.r) {
			t.Errorf("deed %d: %+v at %d with %+v:\ngot  %+v %+v %d\nwant %+v %+v 0", i, d.c, d.time, d.m, m, r, int(e), d.want, d.r)
		}
	}
}
