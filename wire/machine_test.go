package wire_test

import (
	"bytes"
	"testing"

	"rostrum/api"
	"rostrum/client"
	"rostrum/wire"
)

// P4.5: bytes that are written out.
func TestBytesOfMachines(t *testing.T) {
	for i, c := range []struct {
		m    api.Machine
		want []byte
	}{
		{client.New(), []byte{64, 0, 0, 0, 0, 0, 0, 0, 0, 64, 0, 0, 0, 0, 0, 0, 1, 0}},
		{machine(at(3, entry("k", textValue("xy"), 4)), 1), []byte{
			64, 0, 0, 0, 0, 0, 0, 3, 1,
			1, 'k', 1, 2, 'x', 'y', 64, 0, 0, 0, 0, 0, 0, 0, 0, 0, 0, 64, 0, 0, 0, 0, 0, 0, 4,
			64, 0, 0, 0, 0, 0, 0, 1, 0}},
		{machine(at(0), 9, known(5, 6, 0, api.Reply{Code: api.ErrState, Text: "t", N: -1, List: []string{"", "u"}})), []byte{
			64, 0, 0, 0, 0, 0, 0, 0, 0, 64, 0, 0, 0, 0, 0, 0, 9, 1,
			64, 0, 0, 0, 0, 0, 0, 5, 64, 0, 0, 0, 0, 0, 0, 6, 64, 0, 0, 0, 0, 0, 0, 0,
			13, 1, 't', 63, 255, 255, 255, 255, 255, 255, 255, 2, 0, 1, 'u'}},
		{mixedMachine(), join(long(7), 6,
			"a", 1, "x", long(0), 0, 0, 0, long(8),
			"b", 2, "", long(-5), 0, 0, 0, long(0),
			"c", 3, "", long(0), 2, "f", "", "g", "yy", 0, 0, long(0),
			"d", 4, "", long(0), 0, 3, "y", "", "y", 0, long(9),
			"e", 5, "", long(0), 0, 2, "", "p", 0, long(0),
			"f", 6, "", long(0), 0, 0, 2, "m", long(-2), "", long(3), long(0),
			long(300), 2,
			long(2), long(0), long(0), 0, "", long(0), 0,
			long(258), long(3), long(7), 5, "t", long(-1), 2, "", "u")},
		{machine(at(api.MaxTime), api.MaxNumber+1), join(long(api.MaxTime), 0, long(api.MaxNumber+1), 0)},
	} {
		if b, e := wire.Encode(c.m); e != api.OK || !bytes.Equal(b, c.want) {
			t.Errorf("case %d: %+v: %v %d, want %v", i, c.m, b, int(e), c.want)
		}
	}
}

// bytesOf a machine, by a way of the tests' own.
func bytesOf(m api.Machine) []byte {
	b := join(long(m.Store.Now), len(m.Store.Entries))
	for _, x := range m.Store.Entries {
		v := x.Value
		b = join(b, x.Key, v.Kind, v.Text, long(v.Count), len(v.Pairs))
		for _, p := range v.Pairs {
			b = join(b, p.Field, p.Text)
		}
		b = join(b, len(v.Items))
		for _, s := range v.Items {
			b = join(b, s)
		}
		b = join(b, len(v.Scores))
		for _, s := range v.Scores {
			b = join(b, s.Member, long(s.N))
		}
		b = join(b, long(x.Until))
	}
	b = join(b, long(m.Next), len(m.Clients))
	for _, x := range m.Clients {
		b = join(b, long(x.Id), long(x.Seq), long(x.Time), int(x.Reply.Code), x.Reply.Text, long(x.Reply.N), len(x.Reply.List))
		for _, s := range x.Reply.List {
			b = join(b, s)
		}
	}
	return b
}

// P4.5, P4.6: what is written is as the document says, and is read as it was; no machine that may be has more than MaxBytes.
func TestMachinesThereAndBack(t *testing.T) {
	for i, m := range someMachines() {
		b, e := wire.Encode(m)
		if e != api.OK || !bytes.Equal(b, bytesOf(m)) || len(b) > api.MaxBytes {
			t.Errorf("case %d: %+v: %v %d", i, m, b, int(e))
		}
		if n, e := wire.Decode(b); e != api.OK || !sameMachine(n, m) {
			t.Errorf("case %d: %+v: %+v %d", i, m, n, int(e))
		}
	}
}

// wrongMachines: what client's Check refuses, but whose numbers fit into their bytes.
func wrongMachines() []api.Machine {
	x := textValue("x")
	over := filled(api.MaxItems+1, 3)
	return []api.Machine{
		{}, machine(at(-1), 1), machine(at(api.MaxTime+1), 1), machine(at(0), api.MaxNumber+2), machine(at(0), -1),
		machine(at(0, entry("", x, 0)), 1), machine(at(0, entry(run(api.MaxKey+1), x, 0)), 1), machine(at(0, entry(run(255), x, 0)), 1),
		machine(at(0, entry("b", x, 0), entry("a", x, 0)), 1), machine(at(0, entry("a", x, 0), entry("a", x, 0)), 1),
		machine(at(3, entry("a", x, 3)), 1), machine(at(3, entry("a", x, -1)), 1), machine(at(3, entry("a", x, api.MaxTime+1)), 1),
		machine(at(0, entry("a", api.Value{}, 0)), 1), machine(at(0, entry("a", api.Value{Kind: 7}, 0)), 1), machine(at(0, entry("a", api.Value{Kind: 255}, 0)), 1),
		machine(at(0, entry("a", api.Value{Kind: api.Text, Count: 1}, 0)), 1), machine(at(0, entry("a", countValue(api.MaxCount+1), 0)), 1),
		machine(at(0, entry("a", list(), 0)), 1), machine(at(0, entry("a", list(over...), 0)), 1), machine(at(0, entry("a", list(run(api.MaxText+1)), 0)), 1),
		machine(at(0, entry("a", set("y", "x"), 0)), 1), machine(at(0, entry("a", rank(api.Score{Member: "x", N: -api.MaxCount - 1}), 0)), 1),
		machine(at(0, entry("a", hash(api.Pair{Text: "x"}), 0)), 1), machine(at(0, entry("a", rank(api.Score{Member: "x"}, api.Score{Member: "x", N: 1}), 0)), 1),
		machine(at(0), 9, known(0, 0, 0, api.Reply{})), machine(at(0), 9, known(9, 0, 0, api.Reply{})), machine(at(0), 9, known(-1, 0, 0, api.Reply{})),
		machine(at(0), 9, known(2, 0, 0, api.Reply{}), known(1, 0, 0, api.Reply{})), machine(at(0), 9, known(1, -1, 0, api.Reply{})),
		machine(at(0), 9, known(1, api.MaxNumber+1, 0, api.Reply{})), machine(at(0), 9, known(1, 0, 1, api.Reply{})),
		machine(at(0), 9, known(1, 0, 0, api.Reply{Code: 14})), machine(at(0), 9, known(1, 0, 0, api.Reply{Code: 255})),
		machine(at(0), 9, known(1, 0, 0, api.Reply{Text: run(api.MaxText + 1)})), machine(at(0), 9, known(1, 0, 0, api.Reply{N: api.MaxCount + 1})),
		machine(at(0), 9, known(1, 0, 0, api.Reply{List: over})), machine(at(0), 9, known(1, 0, 0, api.Reply{List: []string{run(255)}})),
	}
}

func decoded(t *testing.T, b []byte, want api.Errno) {
	t.Helper()
	if m, e := wire.Decode(b); e != want || !sameMachine(m, api.Machine{}) {
		t.Errorf("%v: %+v %d, want nothing and %d", b, m, int(e), int(want))
	}
}

// P4.5, P4.6: what may not be is refused, both ways; but first bytes that end too early, or do not end.
func TestWrongMachines(t *testing.T) {
	for i, m := range wrongMachines() {
		if b, e := wire.Encode(m); e != api.ErrState || len(b) > 0 {
			t.Errorf("case %d: %+v: %v %d", i, m, b, int(e))
		}
		b := bytesOf(m)
		decoded(t, b, api.ErrState)
		decoded(t, b[:len(b)-1], api.ErrShort)
		decoded(t, join(b, 0), api.ErrForm)
	}
	tooMany := machine(at(0), 1)
	tooMany.Store.Entries = make([]api.Entry, 256)
	crowd := machine(at(0), 999)
	crowd.Clients = make([]api.Client, 256)
	for _, m := range []api.Machine{tooMany, crowd, machine(at(0, entry("k", textValue(run(256)), 0)), 1), machine(at(0, entry("k", api.Value{Kind: 257}, 0)), 1)} {
		if b, e := wire.Encode(m); e != api.ErrState || len(b) > 0 {
			t.Errorf("%v %d", b, int(e))
		}
	}
}

// P4.6: one entry, or one client, more than may be.
func TestOneMoreThanMayBe(t *testing.T) {
	full := fullMachine()
	keys := full
	keys.Store.Entries = append(keys.Store.Entries[:api.MaxKeys:api.MaxKeys], entry("z", textValue(""), 0))
	clients := full
	clients.Clients = append([]api.Client{known(1, 0, 0, api.Reply{})}, full.Clients...)
	decoded(t, bytesOf(keys), api.ErrState)
	decoded(t, bytesOf(clients), api.ErrState)
}

// P4.6: bytes that are torn at every place, and some behind them.
func TestTornMachines(t *testing.T) {
	decoded(t, nil, api.ErrShort)
	decoded(t, []byte{}, api.ErrShort)
	for _, m := range someMachines() {
		b, _ := wire.Encode(m)
		for n := range b {
			decoded(t, b[:n], api.ErrShort)
		}
		for _, more := range [][]byte{{0}, {1}, {255}, long(0)} {
			decoded(t, join(b, more), api.ErrForm)
		}
	}
}

// P4.6: a number that does not fit goes round, and is refused, wherever it stands.
func TestOddNumbersOfMachines(t *testing.T) {
	for _, n := range oddNumbers() {
		decoded(t, join(n, 0, long(1), 0), api.ErrState)
		decoded(t, join(long(0), 0, n, 0), api.ErrState)
		decoded(t, join(long(0), 1, "k", 1, "x", long(0), 0, 0, 0, n, long(1), 0), api.ErrState)
		decoded(t, join(long(0), 1, "k", 2, "", n, 0, 0, 0, long(0), long(1), 0), api.ErrState)
		decoded(t, join(long(0), 1, "k", 6, "", long(0), 0, 0, 1, "m", n, long(0), long(1), 0), api.ErrState)
		for place := range 4 {
			part := [][]byte{long(1), long(0), long(0), long(0)}
			part[place] = n
			decoded(t, join(long(0), 0, long(9), 1, part[0], part[1], part[2], 0, "", part[3], 0), api.ErrState)
		}
	}
}

// bytesOfLength: those of a machine that may not be, with so many texts that they are n.
func bytesOfLength(n int) []byte {
	m := machine(at(0), 9)
	for i := range 3 {
		m.Clients = append(m.Clients, known(1+i, 0, 0, api.Reply{List: filled(255, 20)}))
	}
	last := known(5, 0, 0, api.Reply{})
	rest := n - len(bytesOf(m)) - len(bytesOf(machine(at(0), 9, last))) + len(bytesOf(machine(at(0), 9)))
	for rest > 0 {
		s := run(min(rest-1, 255))
		last.Reply.List = append(last.Reply.List, s)
		rest -= len(s) + 1
	}
	m.Clients = append(m.Clients, last)
	return bytesOf(m)
}

// P4.6: MaxBytes bytes, and one more.
func TestManyBytesOfMachines(t *testing.T) {
	most, over := bytesOfLength(api.MaxBytes), bytesOfLength(api.MaxBytes+1)
	if len(most) != api.MaxBytes || len(over) != api.MaxBytes+1 {
		t.Fatalf("%d and %d bytes", len(most), len(over))
	}
	decoded(t, most, api.ErrState)
	decoded(t, over, api.ErrSize)
	decoded(t, join(most, 0), api.ErrSize)
	decoded(t, over[:api.MaxBytes], api.ErrShort)
	decoded(t, join(bytesOfLength(api.MaxBytes-1), 0), api.ErrForm)
	for _, m := range someMachines() {
		b := bytesOf(m)
		decoded(t, join(b, make([]byte, api.MaxBytes-len(b))), api.ErrForm)
		decoded(t, join(b, make([]byte, api.MaxBytes+1-len(b))), api.ErrSize)
	}
	decoded(t, bytes.Repeat([]byte{255}, api.MaxBytes), api.ErrShort)
	decoded(t, bytes.Repeat([]byte{255}, api.MaxBytes+1), api.ErrSize)
	decoded(t, make([]byte, api.MaxBytes), api.ErrForm)
}
