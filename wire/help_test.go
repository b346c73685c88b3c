package wire_test

import (
	"bytes"
	"fmt"
	"reflect"
	"strings"

	"rostrum/api"
	"rostrum/client"
)

// run of n bytes, as a text.
func run(n int) string { return strings.Repeat("q", n) }

// filled: n texts of a length, rising.
func filled(n, length int) []string {
	var l []string
	for i := range n {
		l = append(l, fmt.Sprintf("%02d", i)+run(length-2))
	}
	return l
}

// long number, as the document tells it: worked out by what is left when it is divided.
func long(n int) []byte {
	b := make([]byte, 8)
	u := uint64(n) + 1<<62
	for i := 7; i >= 0; i-- {
		b[i] = byte(u % 256)
		u /= 256
	}
	return b
}

// text with its length ahead.
func text(s string) []byte { return append([]byte{byte(len(s))}, s...) }

// join parts: bytes, small numbers (int) and texts (string).
func join(parts ...any) []byte {
	b := []byte{}
	for _, p := range parts {
		switch x := p.(type) {
		case []byte:
			b = append(b, x...)
		case int:
			b = append(b, byte(x))
		case string:
			b = append(b, text(x)...)
		}
	}
	return b
}

func textValue(s string) api.Value  { return api.Value{Kind: api.Text, Text: s} }
func countValue(n int) api.Value    { return api.Value{Kind: api.Count, Count: n} }
func list(l ...string) api.Value    { return api.Value{Kind: api.List, Items: l} }
func set(l ...string) api.Value     { return api.Value{Kind: api.Set, Items: l} }
func hash(l ...api.Pair) api.Value  { return api.Value{Kind: api.Hash, Pairs: l} }
func rank(l ...api.Score) api.Value { return api.Value{Kind: api.Rank, Scores: l} }

func entry(key string, v api.Value, until int) api.Entry {
	return api.Entry{Key: key, Value: v, Until: until}
}

// at a time there are these entries.
func at(now int, l ...api.Entry) api.Store { return api.Store{Now: now, Entries: l} }

func known(id, seq, time int, r api.Reply) api.Client {
	return api.Client{Id: id, Seq: seq, Time: time, Reply: r}
}

func machine(s api.Store, next int, l ...api.Client) api.Machine {
	return api.Machine{Store: s, Next: next, Clients: l}
}

var keys = api.Command{Kind: api.Keys}

func command(kind int, key, field, text string, n int) api.Command {
	return api.Command{Kind: kind, Key: key, Field: field, Text: text, N: n}
}

func item(term, time int, c api.Call) api.Item { return api.Item{Term: term, Time: time, Call: c} }

func nop(term, time int) api.Item { return api.Item{Term: term, Time: time, Nop: true} }

func call(id, seq int, c api.Command) api.Call { return api.Call{Client: id, Seq: seq, Command: c} }

// someItems that may be: a Nop, somebody who would be a client, and commands with all that they may have, at the bounds too.
func someItems() []api.Item {
	top, late := api.MaxNumber, api.MaxTime
	l := []api.Item{
		nop(1, 0), nop(top, late), item(1, 0, api.Call{}), item(top, late, api.Call{}),
		item(3, 7, call(1, 1, keys)), item(top, late, call(top, top, keys)),
		item(3, 7, call(5, 2, command(api.HSet, "key", "field", "text", 0))),
		item(3, 7, call(5, 2, command(api.HSet, "\x00\xff", "\xff", "", 0))),
		item(3, 7, call(5, 2, command(api.HSet, run(api.MaxKey), run(api.MaxKey), run(api.MaxText), 0))),
	}
	for _, n := range []int{0, 1, -1, 255, 256, -256, api.MaxCount, -api.MaxCount} {
		l = append(l, item(3, 7, call(5, 2, command(api.Add, "k", "", "", n))), item(3, 7, call(5, 2, command(api.ZAdd, "k", "", "m", n))))
	}
	return l
}

// fullMachine: all that may be, and that at its bounds.
func fullMachine() api.Machine {
	var pairs []api.Pair
	var scores []api.Score
	fields, most := filled(api.MaxItems, api.MaxKey), filled(api.MaxItems, api.MaxText)
	for i := range api.MaxItems {
		pairs = append(pairs, api.Pair{Field: fields[i], Text: most[i]})
		scores = append(scores, api.Score{Member: most[i], N: api.MaxCount})
	}
	values := []api.Value{hash(pairs...), rank(scores...), list(most...), set(most...), textValue(most[0]), countValue(-api.MaxCount)}
	now := api.MaxTime - 1
	m := machine(at(now), api.MaxNumber+1)
	for i, k := range filled(api.MaxKeys, api.MaxKey) {
		m.Store.Entries = append(m.Store.Entries, entry(k, values[i%len(values)], api.MaxTime*(i%2)))
	}
	for i := range api.MaxClients {
		m.Clients = append(m.Clients, known(api.MaxNumber-api.MaxClients+1+i, api.MaxNumber, now, api.Reply{Code: api.ErrState, Text: most[1], N: -api.MaxCount, List: most}))
	}
	return m
}

// mixedMachine: values of all kinds, and clients with all kinds of replies.
func mixedMachine() api.Machine {
	s := at(7, entry("a", textValue("x"), 8), entry("b", countValue(-5), 0),
		entry("c", hash(api.Pair{Field: "f"}, api.Pair{Field: "g", Text: "yy"}), 0), entry("d", list("y", "", "y"), 9),
		entry("e", set("", "p"), 0), entry("f", rank(api.Score{Member: "m", N: -2}, api.Score{N: 3}), 0))
	return machine(s, 300, known(2, 0, 0, api.Reply{}), known(258, 3, 7, api.Reply{Code: api.ErrNone, Text: "t", N: -1, List: []string{"", "u"}}))
}

// someMachines that may be.
func someMachines() []api.Machine {
	return []api.Machine{
		client.New(), mixedMachine(), fullMachine(), machine(at(api.MaxTime), api.MaxNumber+1),
		machine(at(0, entry("k", textValue(""), 0)), 1), machine(at(0, entry("k", textValue(""), api.MaxTime)), 1),
		machine(at(0), 2, known(1, 0, 0, api.Reply{})), machine(at(0), 2, known(1, 0, 0, api.Reply{List: []string{""}})),
	}
}

// plainMachine: a machine in which empty lists are nil.
func plainMachine(m api.Machine) api.Machine {
	m.Store.Entries = append([]api.Entry(nil), m.Store.Entries...)
	for i := range m.Store.Entries {
		v := &m.Store.Entries[i].Value
		v.Pairs = append([]api.Pair(nil), v.Pairs...)
		v.Items = append([]string(nil), v.Items...)
		v.Scores = append([]api.Score(nil), v.Scores...)
	}
	m.Clients = append([]api.Client(nil), m.Clients...)
	for i := range m.Clients {
		m.Clients[i].Reply.List = append([]string(nil), m.Clients[i].Reply.List...)
	}
	return m
}

func sameMachine(a, b api.Machine) bool { return reflect.DeepEqual(plainMachine(a), plainMachine(b)) }

// roomyBytes: a copy of bytes, with marked room behind it.
func roomyBytes(b []byte) []byte {
	return append(append(make([]byte, 0, len(b)+9), b...), "spare"...)[:len(b)]
}

// altered: a copy of bytes with another one at a place.
func altered(b []byte, place int, x byte) []byte {
	b = bytes.Clone(b)
	b[place] = x
	return b
}

// die: numbers that look drawn, the same each time.
type die uint64

func (d *die) n(most int) int {
	*d = *d*6364136223846793005 + 1442695040888963407
	return int(uint64(*d>>33) % uint64(most))
}
