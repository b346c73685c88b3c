// Package fresh: what is handed in, once more, in memory of its own.
package fresh

import "rostrum/api"

// List of its own: not even the room behind an empty one is shared.
func List[T any](l []T) []T { return append([]T(nil), l...) }

// Value that shares no list with v.
func Value(v api.Value) api.Value {
	v.Pairs = List(v.Pairs)
	v.Items = List(v.Items)
	v.Scores = List(v.Scores)
	return v
}

// Store that shares no list with s.
func Store(s api.Store) api.Store {
	s.Entries = List(s.Entries)
	for i, x := range s.Entries {
		s.Entries[i].Value = Value(x.Value)
	}
	return s
}

// Reply that shares no list with r.
func Reply(r api.Reply) api.Reply {
	r.List = List(r.List)
	return r
}

// Machine that shares no list with m.
func Machine(m api.Machine) api.Machine {
	m.Store = Store(m.Store)
	m.Clients = List(m.Clients)
	for i, x := range m.Clients {
		m.Clients[i].Reply = Reply(x.Reply)
	}
	return m
}
