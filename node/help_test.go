package node_test

import (
	"fmt"
	"strings"
	"testing"

	"rostrum/api"
	"rostrum/client"
	"rostrum/node"
	"rostrum/wire"
)

const top = api.MaxNumber

// rig of a node: what it is told comes in, what it sends goes out.
type rig struct {
	t    *testing.T
	n    *node.Node
	book *node.Book
}

func start(t *testing.T, id int) *rig {
	b := &node.Book{}
	return &rig{t, node.Begin(id, b), b}
}

func (r *rig) come(l ...api.Message) *rig {
	for _, m := range l {
		r.n.Come(m)
	}
	return r
}

func (r *rig) do(kinds ...int) *rig {
	for _, k := range kinds {
		r.n.Act(api.Act{Kind: k})
	}
	return r
}

func (r *rig) crash(keep int) *rig {
	r.n.Act(api.Act{Kind: api.Crash, Pick: keep})
	return r
}

func (r *rig) ask(c api.Call) *rig {
	r.n.Act(api.Act{Kind: api.Ask, Call: c})
	return r
}

// text of messages, in which a list without elements is the same, be it nil or not.
func text(l []api.Message) string { return fmt.Sprintf("%+v", l) }

// sends these messages with the next Sync, and no others.
func (r *rig) sends(want ...api.Message) *rig {
	r.t.Helper()
	if l := r.n.Flush(); text(l) != text(want) {
		r.t.Errorf("sent\n%s, want\n%s", text(l), text(want))
	}
	return r
}

// is in that term, leads or not, and has done items up to a place.
func (r *rig) is(term int, leads bool, done int) *rig {
	r.t.Helper()
	if v := r.n.View(); v.Term != term || v.Leads != leads || v.Commit != done {
		r.t.Errorf("term %d, leads: %v, %d done; want %d, %v, %d", v.Term, v.Leads, v.Commit, term, leads, done)
	}
	return r
}

// log is that.
func (r *rig) log(base, term int, items ...api.Item) *rig {
	r.t.Helper()
	want := api.Log{Base: base, BaseTerm: term, Items: items}
	if l := r.n.View().Log; fmt.Sprint(l) != fmt.Sprint(want) {
		r.t.Errorf("the log is %+v, want %+v", l, want)
	}
	return r
}

// told these codes and numbers, in order.
func (r *rig) told(want string) *rig {
	r.t.Helper()
	s := ""
	for _, x := range r.book.Told {
		s += fmt.Sprintf(" %d(%d.%d)%d,%d", x.Node, x.Call.Client, x.Call.Seq, int(x.Reply.Code), x.Reply.N)
	}
	if s = strings.TrimSpace(s); s != want {
		r.t.Errorf("told %s, want %s", s, want)
	}
	return r
}

func pre(from, to, term, last, of int) api.Message {
	return api.Message{From: from, To: to, Kind: api.Pre, Term: term, Last: last, LastTerm: of}
}

func preOk(from, to, term int) api.Message {
	return api.Message{From: from, To: to, Kind: api.PreOk, Term: term}
}

func vote(from, to, term, last, of int) api.Message {
	return api.Message{From: from, To: to, Kind: api.Vote, Term: term, Last: last, LastTerm: of}
}

func voted(from, to, term int) api.Message {
	return api.Message{From: from, To: to, Kind: api.Voted, Term: term}
}

func no(from, to, term int) api.Message {
	return api.Message{From: from, To: to, Kind: api.No, Term: term}
}

func heap(from, to, term, last, of, done int, items ...api.Item) api.Message {
	return api.Message{From: from, To: to, Kind: api.Heap, Term: term, Last: last, LastTerm: of, Commit: done, Items: items}
}

func ack(from, to, term int, yes bool, last int) api.Message {
	return api.Message{From: from, To: to, Kind: api.Ack, Term: term, Yes: yes, Last: last}
}

func ship(from, to, term int, s api.Snap) api.Message {
	return api.Message{From: from, To: to, Kind: api.Ship, Term: term, Snap: s}
}

func snap(index, term int) api.Snap {
	return api.Snap{Index: index, Term: term, Machine: client.New()}
}

func nop(term int) api.Item { return api.Item{Term: term, Nop: true} }

func item(term int, c api.Call) api.Item { return api.Item{Term: term, Call: c} }

// add of the client 1.
func add(seq int) api.Call {
	return api.Call{Client: 1, Seq: seq, Command: api.Command{Kind: api.Add, Key: "n", N: 1}}
}

// nops of a term.
func nops(n, term int) []api.Item {
	var l []api.Item
	for range n {
		l = append(l, nop(term))
	}
	return l
}

// leading: node 1 leads in term 1; its Nop waits to go out no more, and has been heard of by nobody.
func leading(t *testing.T) *rig {
	r := start(t, 1).do(api.Stand).come(preOk(0, 1, 1), voted(0, 1, 1))
	r.n.Flush()
	return r
}

// entry of a store, which takes so many bytes: a list of 1 to MaxItems texts.
func entry(key string, bytes int) api.Entry {
	left := bytes - 23
	var l []string
	for left > 0 {
		n := min(left, 1+api.MaxText)
		l = append(l, strings.Repeat("q", n-1))
		left -= n
	}
	return api.Entry{Key: key, Value: api.Value{Kind: api.List, Items: l}}
}

// snapOf a machine whose Load takes so many bytes.
func snapOf(t *testing.T, index, bytes int) api.Snap {
	s := snap(index, 1)
	left := bytes - 28
	for key := 'a'; left > 0; key++ {
		n := left
		if left > 440 {
			n = min(400, left/2)
		}
		s.Machine.Store.Entries = append(s.Machine.Store.Entries, entry(string(key), n))
		left -= n
	}
	if b, e := wire.Encode(s.Machine); e != api.OK || len(b)+10 != bytes {
		t.Fatalf("%d bytes of %d: %d", len(b)+10, bytes, int(e))
	}
	return s
}

// crammed: node 1, in term 1, on whose tape so many bytes have room; what it was sent is an Ack each, and gone. It has what is up to the place that is told.
func crammed(t *testing.T, room int) (*rig, int) {
	r := start(t, 1)
	left := api.MaxTape - 8 - room // behind a Mark
	index := 0
	for left > 0 {
		n := left
		if left > 4500 {
			n = min(4000, left/2)
		}
		index++
		r.come(ship(0, 1, 1, snapOf(t, index, n)))
		left -= n
	}
	r.n.Flush()
	return r.is(1, false, index).log(index, 1), index
}
