package fresh_test

import (
	"reflect"
	"testing"

	"rostrum/api"
	"rostrum/fresh"
)

// room: a list with no element, and one behind it that is marked.
func room(mark string) []string { return []string{mark}[:0] }

// An empty list does not share the room behind it.
func TestEmptyLists(t *testing.T) {
	l := room("spare")
	_ = append(fresh.List(l), "!")
	if l[:1][0] != "spare" {
		t.Errorf("the room behind an empty list is shared")
	}
	if got := fresh.List[string](nil); len(got) != 0 {
		t.Errorf("of nothing %v came", got)
	}
}

// A copy is the same, and stays so when the other one is changed.
func TestCopies(t *testing.T) {
	make := func() api.Store {
		return api.Store{Now: 3, Entries: []api.Entry{
			{Key: "a", Value: api.Value{Kind: api.Hash, Pairs: []api.Pair{{Field: "f", Text: "x"}}}, Until: 9},
			{Key: "b", Value: api.Value{Kind: api.List, Items: []string{"x", "y"}}},
			{Key: "c", Value: api.Value{Kind: api.Rank, Scores: []api.Score{{Member: "m", N: 1}}}},
			{Key: "d", Value: api.Value{Kind: api.Text, Text: "x"}},
		}}
	}
	s := make()
	got := fresh.Store(s)
	if !reflect.DeepEqual(got, s) {
		t.Fatalf("%+v is no copy of %+v", got, s)
	}
	s.Entries[0].Value.Pairs[0].Text = "!"
	s.Entries[1].Value.Items[1] = "!"
	s.Entries[2].Value.Scores[0].N = 7
	s.Entries[3].Key = "!"
	if !reflect.DeepEqual(got, make()) {
		t.Errorf("the copy changed with the other one: %+v", got)
	}
}

// A copy of a machine is the same, and stays so when the other one is changed.
func TestCopiesOfMachines(t *testing.T) {
	make := func() api.Machine {
		return api.Machine{
			Store: api.Store{Now: 3, Entries: []api.Entry{{Key: "a", Value: api.Value{Kind: api.List, Items: []string{"x"}}}}},
			Next:  9,
			Clients: []api.Client{
				{Id: 1, Seq: 2, Time: 3, Reply: api.Reply{Code: api.ErrNone, Text: "x", N: 4, List: []string{"x", "y"}}},
				{Id: 5, Reply: api.Reply{List: []string{"z"}}},
			},
		}
	}
	m := make()
	got, reply := fresh.Machine(m), fresh.Reply(m.Clients[0].Reply)
	if !reflect.DeepEqual(got, m) || !reflect.DeepEqual(reply, m.Clients[0].Reply) {
		t.Fatalf("%+v and %+v are no copies of %+v", got, reply, m)
	}
	m.Store.Entries[0].Value.Items[0] = "!"
	m.Clients[0].Reply.List[1] = "!"
	m.Clients[1].Reply.List[0] = "!"
	m.Clients[1].Id = 6
	if !reflect.DeepEqual(got, make()) || !reflect.DeepEqual(reply, make().Clients[0].Reply) {
		t.Errorf("the copies changed with the other one: %+v %+v", got, reply)
	}
}
