package wire_test

import (
	"bytes"
	"math"
	"testing"

	"rostrum/api"
	"rostrum/wire"
)

type itemCase struct {
	x    api.Item
	want api.Errno
}

// wrongItems: what is refused, and which error is named first.
func wrongItems() []itemCase {
	get := command(api.Get, "k", "", "", 0)
	l := []itemCase{
		{api.Item{}, api.ErrRange}, {api.Item{Nop: true}, api.ErrRange},
		{api.Item{Term: 1, Nop: true, Call: api.Call{Client: 1}}, api.ErrForm}, {api.Item{Term: 1, Nop: true, Call: api.Call{Seq: 1}}, api.ErrForm},
		{api.Item{Term: 1, Nop: true, Call: call(1, 1, get)}, api.ErrForm}, {api.Item{Term: 1, Nop: true, Call: call(-1, 1, get)}, api.ErrForm},
		{api.Item{Term: 1, Nop: true, Call: call(0, 0, keys)}, api.ErrForm}, {api.Item{Term: 1, Nop: true, Call: call(0, 0, api.Command{Text: "x"})}, api.ErrForm},
		{api.Item{Term: 1, Nop: true, Call: call(0, 0, api.Command{Key: "k"})}, api.ErrForm}, {api.Item{Term: 1, Nop: true, Call: call(0, 0, api.Command{Field: "f"})}, api.ErrForm},
		{api.Item{Term: 1, Nop: true, Call: call(0, 0, api.Command{N: 1})}, api.ErrForm}, {api.Item{Term: 0, Nop: true, Call: call(1, 1, get)}, api.ErrRange},
		{api.Item{Term: 1, Time: -1, Nop: true, Call: call(1, 1, get)}, api.ErrRange},
		{item(1, 0, api.Call{Seq: 1}), api.ErrForm}, {item(1, 0, call(0, 0, keys)), api.ErrForm}, {item(0, 0, call(0, 0, keys)), api.ErrRange},
		{item(1, 0, call(-1, 1, get)), api.ErrRange}, {item(1, 0, call(api.MaxNumber+1, 1, get)), api.ErrRange},
		{item(1, 0, call(1, 0, get)), api.ErrRange}, {item(1, 0, call(1, api.MaxNumber+1, api.Command{})), api.ErrRange},
		{item(1, 0, call(1, 1, api.Command{})), api.ErrKind}, {item(1, 0, call(1, 1, command(api.Keys+1, "k", "", "", 0))), api.ErrKind},
		{item(0, 0, call(1, 1, api.Command{})), api.ErrRange}, {item(1, -1, call(1, 1, api.Command{})), api.ErrRange},
		{item(1, 0, call(1, 1, command(api.Get, "k", "f", "", 0))), api.ErrForm}, {item(1, 0, call(1, 1, command(api.Keys, "k", "", "", 0))), api.ErrForm},
		{item(1, 0, call(1, 1, command(api.Get, "", "", "", 0))), api.ErrSize}, {item(1, 0, call(1, 1, command(api.Get, run(api.MaxKey+1), "", "", 0))), api.ErrSize},
		{item(1, 0, call(1, 1, command(api.HGet, "k", run(api.MaxKey+1), "", 0))), api.ErrSize},
		{item(1, 0, call(1, 1, command(api.Put, "k", "", run(api.MaxText+1), 0))), api.ErrSize},
		{item(1, 0, call(1, 1, command(api.Put, "k", "", run(256), 0))), api.ErrSize},
		{item(1, 0, call(1, 1, command(api.Add, "k", "", "", api.MaxCount+1))), api.ErrRange},
		{item(1, 0, call(1, 1, command(api.Add, "k", "", "", -api.MaxCount-1))), api.ErrRange},
	}
	for _, n := range []int{0, -1, api.MaxNumber + 1, math.MinInt, math.MaxInt} {
		l = append(l, itemCase{nop(n, 0), api.ErrRange}, itemCase{item(n, 0, api.Call{}), api.ErrRange}, itemCase{item(n, 0, call(1, 1, get)), api.ErrRange})
	}
	for _, n := range []int{-1, api.MaxTime + 1, math.MinInt, math.MaxInt} {
		l = append(l, itemCase{nop(1, n), api.ErrRange}, itemCase{item(1, n, api.Call{}), api.ErrRange}, itemCase{item(1, n, call(1, 1, get)), api.ErrRange})
	}
	return l
}

// P4.1: items that may be, and others.
func TestCheckItem(t *testing.T) {
	for _, x := range someItems() {
		if e := wire.CheckItem(x); e != api.OK {
			t.Errorf("%+v: %d", x, int(e))
		}
	}
	for i, c := range wrongItems() {
		if e := wire.CheckItem(c.x); e != c.want {
			t.Errorf("case %d: %+v: %d, want %d", i, c.x, int(e), int(c.want))
		}
	}
}

// P4.2, P4.3: bytes that are written out.
func TestBytesOfItems(t *testing.T) {
	for i, c := range []struct {
		x    api.Item
		want []byte
	}{
		{nop(1, 0), []byte{64, 0, 0, 0, 0, 0, 0, 1, 64, 0, 0, 0, 0, 0, 0, 0, 1}},
		{nop(api.MaxNumber, api.MaxTime), []byte{64, 0, 0, 0, 0, 16, 0, 0, 64, 0, 0, 0, 64, 0, 0, 0, 1}},
		{item(258, 3, api.Call{}), []byte{64, 0, 0, 0, 0, 0, 1, 2, 64, 0, 0, 0, 0, 0, 0, 3, 0, 64, 0, 0, 0, 0, 0, 0, 0}},
		{item(1, 0, call(2, 3, keys)), []byte{
			64, 0, 0, 0, 0, 0, 0, 1, 64, 0, 0, 0, 0, 0, 0, 0, 0, 64, 0, 0, 0, 0, 0, 0, 2, 64, 0, 0, 0, 0, 0, 0, 3,
			22, 0, 0, 0, 64, 0, 0, 0, 0, 0, 0, 0}},
		{item(1, 0, call(2, 3, command(api.Add, "k", "", "", -2))), []byte{
			64, 0, 0, 0, 0, 0, 0, 1, 64, 0, 0, 0, 0, 0, 0, 0, 0, 64, 0, 0, 0, 0, 0, 0, 2, 64, 0, 0, 0, 0, 0, 0, 3,
			3, 1, 'k', 0, 0, 63, 255, 255, 255, 255, 255, 255, 254}},
		{item(1, 0, call(2, 3, command(api.HSet, "kk", "f", "xyz", 0))), []byte{
			64, 0, 0, 0, 0, 0, 0, 1, 64, 0, 0, 0, 0, 0, 0, 0, 0, 64, 0, 0, 0, 0, 0, 0, 2, 64, 0, 0, 0, 0, 0, 0, 3,
			4, 2, 'k', 'k', 1, 'f', 3, 'x', 'y', 'z', 64, 0, 0, 0, 0, 0, 0, 0}},
		{item(1, 0, call(1, 1, command(api.ZAdd, "k", "", "m", api.MaxCount))), join(long(1), long(0), 0, long(1), long(1), 14, "k", "", "m", []byte{64, 0, 1, 0, 0, 0, 0, 0})},
		{item(1, 0, call(1, 1, command(api.ZAdd, "k", "", "m", -api.MaxCount))), join(long(1), long(0), 0, long(1), long(1), 14, "k", "", "m", []byte{63, 255, 255, 0, 0, 0, 0, 0})},
		{item(1, 0, call(1, 1, command(api.HSet, run(api.MaxKey), "\x00\xff", run(api.MaxText), 0))),
			join(long(1), long(0), 0, long(1), long(1), 4, run(api.MaxKey), "\x00\xff", run(api.MaxText), long(0))},
	} {
		if b, e := wire.EncodeItem(c.x); e != api.OK || !bytes.Equal(b, c.want) {
			t.Errorf("case %d: %+v: %v %d, want %v", i, c.x, b, int(e), c.want)
		}
	}
}

// P4.3: what may not be has no bytes.
func TestItemsWithoutBytes(t *testing.T) {
	for i, c := range wrongItems() {
		if b, e := wire.EncodeItem(c.x); e != c.want || len(b) > 0 {
			t.Errorf("case %d: %+v: %v %d, want %d", i, c.x, b, int(e), int(c.want))
		}
	}
}

// P4.4: what is written is read as it was.
func TestItemsThereAndBack(t *testing.T) {
	for _, x := range someItems() {
		b, _ := wire.EncodeItem(x)
		if y, e := wire.DecodeItem(b); e != api.OK || y != x {
			t.Errorf("%+v: %+v %d", x, y, int(e))
		}
	}
}

func decodedItem(t *testing.T, b []byte, want api.Errno) {
	t.Helper()
	if x, e := wire.DecodeItem(b); e != want || x != (api.Item{}) {
		t.Errorf("%v: %+v %d, want nothing and %d", b, x, int(e), int(want))
	}
}

// P4.4: bytes that are torn at every place, and some behind them.
func TestTornItems(t *testing.T) {
	decodedItem(t, nil, api.ErrShort)
	decodedItem(t, []byte{}, api.ErrShort)
	for _, x := range someItems() {
		b, _ := wire.EncodeItem(x)
		for n := range b {
			decodedItem(t, b[:n], api.ErrShort)
		}
		for _, more := range [][]byte{{0}, {1}, {255}, long(0), b} {
			decodedItem(t, join(b, more), api.ErrForm)
		}
	}
}

// P4.4: what says whether it is a Nop: nothing is behind it, if it is neither 0 nor 1.
func TestNeitherNopNorCall(t *testing.T) {
	for flag := 2; flag < 256; flag++ {
		for _, rest := range [][]byte{{}, {0}, {64}, long(0), join(long(1), long(1), 22, "", "", "", long(0))} {
			decodedItem(t, join(long(1), long(0), flag, rest), api.ErrForm)
			decodedItem(t, join(long(0), long(-1), flag, rest), api.ErrForm)
		}
	}
}

// P4.4: what CheckItem refuses, behind all else.
func TestRefusedBytesOfItems(t *testing.T) {
	head := join(long(1), long(0), 0, long(1), long(1))
	for _, c := range []struct {
		b    []byte
		want api.Errno
	}{
		{join(long(0), long(0), 1), api.ErrRange}, {join(long(1), long(-1), 1), api.ErrRange},
		{join(long(api.MaxNumber+1), long(0), 1), api.ErrRange}, {join(long(1), long(api.MaxTime+1), 1), api.ErrRange},
		{join(long(1), long(0), 0, long(-1), long(1), 22, "", "", "", long(0)), api.ErrRange},
		{join(long(1), long(0), 0, long(api.MaxNumber+1), long(1), 22, "", "", "", long(0)), api.ErrRange},
		{join(long(1), long(0), 0, long(1), long(0), 22, "", "", "", long(0)), api.ErrRange},
		{join(head, 0, "", "", "", long(0)), api.ErrKind}, {join(head, 23, "", "", "", long(0)), api.ErrKind}, {join(head, 255, "", "", "", long(0)), api.ErrKind},
		{join(head, 22, "k", "", "", long(0)), api.ErrForm}, {join(head, 2, "k", "", "", long(1)), api.ErrForm},
		{join(head, 2, "", "", "", long(0)), api.ErrSize}, {join(head, 2, run(api.MaxKey+1), "", "", long(0)), api.ErrSize},
		{join(head, 1, "k", "", run(255), long(0)), api.ErrSize}, {join(head, 5, "k", run(255), "", long(0)), api.ErrSize},
		{join(head, 3, "k", "", "", long(api.MaxCount+1)), api.ErrRange}, {join(head, 3, "k", "", "", long(-api.MaxCount-1)), api.ErrRange},
	} {
		decodedItem(t, c.b, c.want)
		decodedItem(t, c.b[:len(c.b)-1], api.ErrShort)
		decodedItem(t, join(c.b, 0), api.ErrForm)
	}
}

// oddNumbers: the bytes of long numbers that do not fit, or that are far off.
func oddNumbers() [][]byte {
	return [][]byte{
		{0, 0, 0, 0, 0, 0, 0, 0}, {0, 0, 0, 0, 0, 0, 0, 1}, {127, 255, 255, 255, 255, 255, 255, 255}, {128, 0, 0, 0, 0, 0, 0, 0},
		{191, 255, 255, 255, 255, 255, 255, 255}, {192, 0, 0, 0, 0, 0, 0, 0}, {192, 0, 0, 0, 0, 0, 0, 1}, {255, 255, 255, 255, 255, 255, 255, 255},
	}
}

// P4.4: a number that does not fit goes round, and is refused, wherever it stands. A Client that is not 0 has more bytes, whatever it is.
func TestOddNumbersOfItems(t *testing.T) {
	for _, n := range oddNumbers() {
		decodedItem(t, join(n, long(0), 1), api.ErrRange)
		decodedItem(t, join(long(1), n, 1), api.ErrRange)
		decodedItem(t, join(long(1), long(0), 0, n), api.ErrShort)
		decodedItem(t, join(long(1), long(0), 0, n, long(1), 22, "", "", "", long(0)), api.ErrRange)
		decodedItem(t, join(long(1), long(0), 0, long(1), n, 22, "", "", "", long(0)), api.ErrRange)
		decodedItem(t, join(long(1), long(0), 0, long(1), long(1), 3, "k", "", "", n), api.ErrRange)
	}
}

// P4.4: MaxBytes bytes, and one more.
func TestManyBytesOfItems(t *testing.T) {
	for _, x := range []byte{0, 1, 64, 255} {
		many := bytes.Repeat([]byte{x}, api.MaxBytes+2)
		decodedItem(t, many[:api.MaxBytes], api.ErrForm)
		decodedItem(t, many[:api.MaxBytes+1], api.ErrSize)
		decodedItem(t, many, api.ErrSize)
	}
	good, _ := wire.EncodeItem(nop(1, 0))
	decodedItem(t, join(good, make([]byte, api.MaxBytes-len(good))), api.ErrForm)
	decodedItem(t, join(good, make([]byte, api.MaxBytes+1-len(good))), api.ErrSize)
}

// Bytes of which one was altered are refused, or are those of another item.
func TestAlteredItems(t *testing.T) {
	for _, x := range someItems() {
		b, _ := wire.EncodeItem(x)
		for place := range b {
			for v := range 256 {
				a := altered(b, place, byte(v))
				y, e := wire.DecodeItem(a)
				if e != api.OK {
					if y != (api.Item{}) {
						t.Fatalf("%v: %+v with %d", a, y, int(e))
					}
					continue
				}
				if back, f := wire.EncodeItem(y); f != api.OK || !bytes.Equal(back, a) || y == x != (byte(v) == b[place]) {
					t.Fatalf("%v: %+v, and back %v %d", a, y, back, int(f))
				}
			}
		}
	}
}
