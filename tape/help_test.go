package tape_test

import (
	"fmt"
	"math"
	"reflect"
	"strings"

	"rostrum/api"
	"rostrum/client"
	"rostrum/wire"
)

const top = api.MaxNumber

func mark(term, vote int) api.Record { return api.Record{Kind: api.Mark, Term: term, For: vote} }

func line(index int, x api.Item) api.Record {
	return api.Record{Kind: api.Line, Index: index, Item: x}
}

func load(s api.Snap) api.Record { return api.Record{Kind: api.Load, Snap: s} }

// snap of a new machine.
func snap(index, term int) api.Snap {
	return api.Snap{Index: index, Term: term, Machine: client.New()}
}

func snapOf(index, term int, m api.Machine) api.Snap {
	return api.Snap{Index: index, Term: term, Machine: m}
}

func nop(term, time int) api.Item { return api.Item{Term: term, Time: time, Nop: true} }

func put(term, time int, text string) api.Item {
	return api.Item{Term: term, Time: time, Call: api.Call{Client: 1, Seq: 1, Command: api.Command{Kind: api.Put, Key: "k", Text: text}}}
}

// nops of these terms, all at the time 0.
func nops(terms ...int) []api.Item {
	var l []api.Item
	for _, t := range terms {
		l = append(l, nop(t, 0))
	}
	return l
}

// many Nops of a term.
func many(n, term int) []api.Item {
	var l []api.Item
	for range n {
		l = append(l, nop(term, 0))
	}
	return l
}

func log(base, term int, items ...api.Item) api.Log {
	return api.Log{Base: base, BaseTerm: term, Items: items}
}

// filled: n texts of a length, rising.
func filled(n, length int) []string {
	var l []string
	for i := range n {
		l = append(l, fmt.Sprintf("%02d", i)+strings.Repeat("q", length-2))
	}
	return l
}

// fullMachine: of all that has lists, as much as may be.
func fullMachine() api.Machine {
	var pairs []api.Pair
	var scores []api.Score
	fields, most := filled(api.MaxItems, api.MaxKey), filled(api.MaxItems, api.MaxText)
	for i := range api.MaxItems {
		pairs = append(pairs, api.Pair{Field: fields[i], Text: most[i]})
		scores = append(scores, api.Score{Member: most[i], N: api.MaxCount})
	}
	values := []api.Value{{Kind: api.Hash, Pairs: pairs}, {Kind: api.Rank, Scores: scores}, {Kind: api.List, Items: most}, {Kind: api.Set, Items: most}}
	m := api.Machine{Store: api.Store{Now: api.MaxTime - 1}, Next: top + 1}
	for i, k := range filled(api.MaxKeys, api.MaxKey) {
		m.Store.Entries = append(m.Store.Entries, api.Entry{Key: k, Value: values[i%len(values)], Until: api.MaxTime * (i % 2)})
	}
	for i := range api.MaxClients {
		m.Clients = append(m.Clients, api.Client{Id: top - api.MaxClients + 1 + i, Seq: top, Time: api.MaxTime - 1, Reply: api.Reply{Code: api.ErrState, Text: most[1], N: -api.MaxCount, List: most}})
	}
	return m
}

// mixedMachine: some values and clients.
func mixedMachine() api.Machine {
	s := api.Store{Now: 7, Entries: []api.Entry{
		{Key: "a", Value: api.Value{Kind: api.Text, Text: "x"}, Until: 8}, {Key: "b", Value: api.Value{Kind: api.Count, Count: -5}},
		{Key: "c", Value: api.Value{Kind: api.Hash, Pairs: []api.Pair{{Field: "f"}}}}, {Key: "d", Value: api.Value{Kind: api.List, Items: []string{"y", ""}}},
		{Key: "e", Value: api.Value{Kind: api.Rank, Scores: []api.Score{{Member: "m", N: -2}}}},
	}}
	return api.Machine{Store: s, Next: 300, Clients: []api.Client{{Id: 2}, {Id: 258, Seq: 3, Time: 7, Reply: api.Reply{Code: api.ErrNone, Text: "t", N: -1, List: []string{"", "u"}}}}}
}

// badMachines: some that may not be.
func badMachines() []api.Machine {
	return []api.Machine{
		{}, {Next: -1}, {Next: top + 2}, {Next: 1, Store: api.Store{Now: -1}}, {Next: 1, Clients: []api.Client{{Id: 1}}},
		{Next: 1, Store: api.Store{Entries: []api.Entry{{}}}}, {Next: 9, Clients: make([]api.Client, api.MaxClients+1)},
	}
}

// goodItems: one of each kind that may be.
func goodItems() []api.Item {
	return []api.Item{
		nop(1, 0), put(1, 0, ""), {Term: 1}, put(258, 5, "x"), nop(2, 5), put(2, 5, strings.Repeat("q", api.MaxText)),
		nop(top, api.MaxTime), {Term: top, Time: api.MaxTime},
	}
}

// badItems: some that may not be.
func badItems() []api.Item {
	l := []api.Item{
		{}, {Nop: true}, nop(-1, 5), nop(top+1, 5), nop(math.MinInt, 5), nop(math.MaxInt, 5), nop(3, -1), nop(3, api.MaxTime+1),
		put(0, 5, "x"), put(3, -1, "x"), put(3, 5, strings.Repeat("q", api.MaxText+1)), {Term: 3, Call: api.Call{Seq: 1}},
		{Term: 3, Time: 5, Nop: true, Call: api.Call{Client: 1, Seq: 1, Command: api.Command{Kind: api.Keys}}},
	}
	for _, c := range []api.Call{
		{Client: -1, Seq: 1, Command: api.Command{Kind: api.Keys}}, {Client: 1, Command: api.Command{Kind: api.Keys}},
		{Client: 1, Seq: 1}, {Client: 1, Seq: 1, Command: api.Command{Kind: api.Get}}, {Client: 1, Seq: 1, Command: api.Command{Kind: api.Keys, Key: "k"}},
	} {
		l = append(l, api.Item{Term: 3, Time: 5, Call: c})
	}
	return l
}

// goodRecords: some that may be, at the bounds too.
func goodRecords() []api.Record {
	l := []api.Record{mark(1, -1), mark(258, 0), mark(3, 1), mark(70000, api.Nodes-1), mark(top, -1), mark(top, api.Nodes-1)}
	for i, x := range goodItems() {
		l = append(l, line([]int{1, 2, 258, 70000, top}[i%5], x))
	}
	for _, m := range []api.Machine{client.New(), mixedMachine(), fullMachine()} {
		l = append(l, load(snapOf(1, 1, m)), load(snapOf(258, 70000, m)), load(snapOf(top, top, m)))
	}
	return l
}

// outside: numbers that are none.
func outside() []int { return []int{0, -1, top + 1, math.MinInt, math.MaxInt} }

type refused struct {
	r api.Record
	e api.Errno
}

// badRecords: of each kind some that may not be, each with a single fault.
func badRecords() []refused {
	var l []refused
	for _, k := range []int{0, -1, 4, 256 + api.Mark, math.MinInt, math.MaxInt} {
		l = append(l, refused{api.Record{Kind: k}, api.ErrKind}, refused{api.Record{Kind: k, Term: 1}, api.ErrKind})
	}
	for _, n := range outside() {
		l = append(l, refused{mark(n, 0), api.ErrRange}, refused{line(n, nop(1, 0)), api.ErrRange},
			refused{load(snap(n, 1)), api.ErrRange}, refused{load(snap(1, n)), api.ErrRange})
	}
	for _, vote := range []int{-2, api.Nodes, 255, math.MinInt, math.MaxInt} {
		l = append(l, refused{mark(1, vote), api.ErrRange})
	}
	for _, x := range badItems() {
		l = append(l, refused{line(1, x), wire.CheckItem(x)})
	}
	for _, m := range badMachines() {
		l = append(l, refused{load(snapOf(1, 1, m)), api.ErrState})
	}
	return l
}

// plain: the same, but lists without elements are nil.
func plain[T any](x T) T {
	v := reflect.New(reflect.TypeFor[T]()).Elem()
	copyPlain(v, reflect.ValueOf(x))
	return v.Interface().(T)
}

func copyPlain(to, from reflect.Value) {
	switch from.Kind() {
	case reflect.Struct:
		for i := range from.NumField() {
			copyPlain(to.Field(i), from.Field(i))
		}
	case reflect.Slice:
		if from.Len() == 0 {
			return
		}
		to.Set(reflect.MakeSlice(from.Type(), from.Len(), from.Len()))
		for i := range from.Len() {
			copyPlain(to.Index(i), from.Index(i))
		}
	default:
		to.Set(from)
	}
}

// same, whether lists without elements are nil or not.
func same[T any](a, b T) bool { return reflect.DeepEqual(plain(a), plain(b)) }

// three bytes of a number, worked out by what is left when it is divided.
func three(n int) []byte { return []byte{byte(n / 65536), byte(n / 256 % 256), byte(n % 256)} }

// join parts: bytes, and numbers of one byte.
func join(parts ...any) []byte {
	b := []byte{}
	for _, p := range parts {
		switch x := p.(type) {
		case []byte:
			b = append(b, x...)
		case int:
			b = append(b, byte(x))
		}
	}
	return b
}

// inFrame: bytes with their length ahead.
func inFrame(parts ...any) []byte {
	b := join(parts...)
	return join(three(len(b)), b)
}

// bytesOf records that may be, as the document tells them.
func bytesOf(l ...api.Record) []byte {
	all := []byte{}
	for _, r := range l {
		switch r.Kind {
		case api.Mark:
			all = append(all, inFrame(1, three(r.Term), r.For+1)...)
		case api.Line:
			all = append(all, inFrame(2, three(r.Index), itemBytes(r.Item))...)
		case api.Load:
			all = append(all, inFrame(3, three(r.Snap.Index), three(r.Snap.Term), machineBytes(r.Snap.Machine))...)
		}
	}
	return all
}

func itemBytes(x api.Item) []byte {
	b, _ := wire.EncodeItem(x)
	return b
}

func machineBytes(m api.Machine) []byte {
	b, _ := wire.Encode(m)
	return b
}

func tapeOf(synced int, b []byte) api.Tape { return api.Tape{Data: b, Synced: synced} }

// wrongTapes: some that may not be.
func wrongTapes() []api.Tape {
	long := make([]byte, api.MaxTape+1)
	return []api.Tape{
		tapeOf(1, nil), tapeOf(-1, nil), tapeOf(1, []byte{}), tapeOf(-1, bytesOf(mark(1, 1))), tapeOf(9, bytesOf(mark(1, 1))),
		tapeOf(math.MinInt, []byte{1}), tapeOf(math.MaxInt, []byte{1}), tapeOf(math.MaxInt, nil),
		tapeOf(0, long), tapeOf(1, long), tapeOf(len(long), long), tapeOf(-1, long), tapeOf(1, make([]byte, 1, 9)[:0]),
	}
}

// die: numbers that look drawn, the same each time.
type die uint64

func (d *die) n(most int) int {
	*d = *d*6364136223846793005 + 1442695040888963407
	return int(uint64(*d>>33) % uint64(most))
}
