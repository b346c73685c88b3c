package wire_test

import (
	"bytes"
	"testing"

	"rostrum/api"
	"rostrum/client"
	"rostrum/wire"
)

// roomy: a list with the same elements, and spare room that is marked.
func roomy[T any](l []T, mark T) []T {
	return append(append(make([]T, 0, 3*len(l)+3), l...), mark)[:len(l)]
}

// roomyMachine: the same machine, with marked room behind each list.
func roomyMachine(m api.Machine) api.Machine {
	m.Store.Entries = roomy(m.Store.Entries, entry("spare", list("spare"), 7))
	for i := range m.Store.Entries {
		v := &m.Store.Entries[i].Value
		v.Pairs = roomy(v.Pairs, api.Pair{Field: "spare"})
		v.Items = roomy(v.Items, "spare")
		v.Scores = roomy(v.Scores, api.Score{Member: "spare"})
	}
	m.Clients = roomy(m.Clients, known(7, 7, 7, api.Reply{List: []string{"spare"}}))
	for i := range m.Clients {
		m.Clients[i].Reply.List = roomy(m.Clients[i].Reply.List, "spare")
	}
	return m
}

// Machines that are handed in are not changed, and two answers share nothing.
func TestEncodedListsAreNotShared(t *testing.T) {
	for i, m := range append(someMachines(), wrongMachines()...) {
		in := roomyMachine(m)
		before := whole(in)
		a, _ := wire.Encode(in)
		b, _ := wire.Encode(in)
		if whole(in) != before {
			t.Errorf("case %d: %+v is changed", i, m)
		}
		if shares(in, a, b) || !bytes.Equal(a, b) {
			t.Errorf("case %d: %v and %v", i, a, b)
		}
	}
	for _, x := range someItems() {
		a, _ := wire.EncodeItem(x)
		b, _ := wire.EncodeItem(x)
		if shares(api.Item{}, a, b) || !bytes.Equal(a, b) {
			t.Errorf("%+v: %v and %v", x, a, b)
		}
	}
}

// Bytes that are handed in are not changed, and not kept; two answers, and the lists of one, share nothing.
func TestDecodedListsAreNotShared(t *testing.T) {
	for i, m := range append(someMachines(), wrongMachines()...) {
		in := roomyBytes(bytesOf(m))
		before := whole(in)
		a, e := wire.Decode(in)
		b, _ := wire.Decode(in)
		if whole(in) != before {
			t.Errorf("case %d: %v is changed", i, in)
		}
		if shares(in, a, b) {
			t.Errorf("case %d: %+v and %+v share lists", i, a, b)
		}
		clear(in[:cap(in)])
		if e == api.OK && (!sameMachine(a, m) || !sameMachine(b, m)) {
			t.Errorf("case %d: %+v changed with its bytes to %+v", i, m, a)
		}
	}
	for _, x := range someItems() {
		b, _ := wire.EncodeItem(x)
		in := roomyBytes(b)
		before := whole(in)
		y, _ := wire.DecodeItem(in)
		if whole(in) != before {
			t.Errorf("%v is changed", in)
		}
		if clear(in[:cap(in)]); y != x {
			t.Errorf("%+v changed with its bytes to %+v", x, y)
		}
	}
}

// The room behind bytes that end too early is not read.
func TestRoomIsNotRead(t *testing.T) {
	for _, m := range someMachines() {
		b := bytesOf(m)
		decoded(t, b[:len(b)-1], api.ErrShort)
		if n, e := wire.Decode(append(b, b...)[:len(b)]); e != api.OK || !sameMachine(n, m) {
			t.Errorf("%+v: %+v %d", m, n, int(e))
		}
	}
}

func (d *die) command() api.Command {
	key := []string{"a", "b", "c", "d"}[d.n(4)]
	s := []string{"", "x", "yy"}[d.n(3)]
	switch d.n(9) {
	case 0:
		return command(api.Add, key, "", "", d.n(9)-4)
	case 1:
		return command(api.Push, key, "", s, 0)
	case 2:
		return command(api.Pop, key, "", "", 0)
	case 3:
		return command(api.Expire, key, "", "", d.n(30))
	case 4:
		return command(api.Put, key, "", s, 0)
	case 5:
		return command(api.HSet, key, []string{"f", "g"}[d.n(2)], s, 0)
	case 6:
		return command(api.ZAdd, key, "", s, d.n(5)-2)
	case 7:
		return command(api.SAdd, key, "", s, 0)
	}
	return command(api.Del, key, "", "", 0)
}

// call that looks drawn: mostly the next one of a client that is there.
func (d *die) call(m api.Machine) api.Call {
	if d.n(12) == 0 || len(m.Clients) == 0 {
		return api.Call{}
	}
	x := m.Clients[d.n(len(m.Clients))]
	return call(x.Id, x.Seq+1, d.command())
}

// No two machines have the same bytes, and no two items.
func TestDrawn(t *testing.T) {
	machines, items := map[string]api.Machine{}, map[string]api.Item{}
	for seed := range 20 {
		d := die(seed)
		m := client.New()
		for step := range 200 {
			x := item(1+step, step, d.call(m))
			if d.n(5) == 0 {
				x = nop(1+d.n(9), d.n(9))
			}
			a, e := wire.EncodeItem(x)
			y, f := wire.DecodeItem(a)
			if old, ok := items[string(a)]; e != api.OK || f != api.OK || x != y || ok && old != x {
				t.Fatalf("seed %d, step %d: %+v: %v %d, %+v %d", seed, step, x, a, int(e), y, int(f))
			}
			m, _, _ = client.Do(m, step, x.Call)
			b, e := wire.Encode(m)
			n, f := wire.Decode(b)
			if old, ok := machines[string(b)]; e != api.OK || f != api.OK || !sameMachine(m, n) || !bytes.Equal(b, bytesOf(m)) || ok && !sameMachine(old, m) {
				t.Fatalf("seed %d, step %d: %+v: %v %d, %+v %d", seed, step, m, b, int(e), n, int(f))
			}
			items[string(a)], machines[string(b)] = x, m
		}
	}
}

// Bytes of which one was altered are refused, or are those of another machine.
func TestAlteredMachines(t *testing.T) {
	d := die(1)
	for _, m := range someMachines() {
		b := bytesOf(m)
		for range 3000 {
			a := altered(b, d.n(len(b)), []byte{0, 1, 2, 63, 64, 255, byte(d.n(256))}[d.n(7)])
			n, e := wire.Decode(a)
			if e != api.OK {
				if !sameMachine(n, api.Machine{}) {
					t.Fatalf("%v: %+v with %d", a, n, int(e))
				}
				continue
			}
			if back, f := wire.Encode(n); f != api.OK || !bytes.Equal(back, a) || sameMachine(n, m) != bytes.Equal(a, b) {
				t.Fatalf("%v: %+v, and back %v %d", a, n, back, int(f))
			}
		}
	}
}

// Whatever bytes there are, an answer comes, and one of the errors that are named.
func TestDrawnBytes(t *testing.T) {
	d := die(7)
	for range 20000 {
		b := make([]byte, d.n(120))
		for i := range b {
			b[i] = []byte{0, 0, 0, 1, 2, 64, 64, byte(d.n(256))}[d.n(8)]
		}
		if m, e := wire.Decode(b); e == api.OK && !bytes.Equal(bytesOf(m), b) || e != api.OK && e != api.ErrShort && e != api.ErrForm && e != api.ErrState {
			t.Fatalf("%v: %+v %d", b, m, int(e))
		}
		if x, e := wire.DecodeItem(b); e == api.OK && wire.CheckItem(x) != api.OK || e == api.ErrState {
			t.Fatalf("%v: %+v %d", b, x, int(e))
		}
	}
}
