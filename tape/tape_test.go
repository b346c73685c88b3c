package tape_test

import (
	"bytes"
	"math"
	"testing"

	"rostrum/api"
	"rostrum/client"
	"rostrum/tape"
)

func sameTape(a, b api.Tape) bool { return a.Synced == b.Synced && bytes.Equal(a.Data, b.Data) }

func none(a api.Tape) bool { return sameTape(a, api.Tape{}) }

// P6.1: others are refused ahead of all else.
func TestWrongTapes(t *testing.T) {
	for i, x := range wrongTapes() {
		for _, r := range []api.Record{mark(1, 0), {}, mark(0, 0), {Kind: api.Line, Term: 1}} {
			if y, e := tape.Append(x, r); e != api.ErrState || !none(y) {
				t.Errorf("tape %d: Append of %+v: %d", i, r, int(e))
			}
		}
		if y, e := tape.Sync(x); e != api.ErrState || !none(y) {
			t.Errorf("tape %d: Sync: %d", i, int(e))
		}
		for _, keep := range []int{-1, 0, 1, math.MaxInt, math.MinInt} {
			if y, e := tape.Crash(x, keep); e != api.ErrState || !none(y) {
				t.Errorf("tape %d: Crash with %d: %d", i, keep, int(e))
			}
		}
		if l, y, e := tape.Recover(x); e != api.ErrState || len(l) > 0 || !none(y) {
			t.Errorf("tape %d: Recover: %d", i, int(e))
		}
	}
}

// P6.1: at the bounds they may be.
func TestTapesAtTheirBounds(t *testing.T) {
	for _, n := range []int{0, 1, 8, api.MaxTape - 1, api.MaxTape} {
		for _, synced := range []int{0, n / 2, n} {
			x := tapeOf(synced, bytes.Repeat([]byte{7}, n))
			if y, e := tape.Sync(x); e != api.OK || !sameTape(y, tapeOf(n, x.Data)) {
				t.Errorf("%d of %d: Sync: %d, %d of %d", synced, n, int(e), y.Synced, len(y.Data))
			}
			if y, e := tape.Crash(x, 0); e != api.OK || !sameTape(y, tapeOf(synced, x.Data[:synced])) {
				t.Errorf("%d of %d: Crash: %d, %d of %d", synced, n, int(e), y.Synced, len(y.Data))
			}
			if l, y, e := tape.Recover(x); e != api.OK || len(l) > 0 || !none(y) {
				t.Errorf("%d of %d: Recover: %d, %d of %d", synced, n, int(e), y.Synced, len(y.Data))
			}
		}
	}
}

// P6.4: byte by byte.
func TestBytesOfRecords(t *testing.T) {
	zero := []byte{64, 0, 0, 0, 0, 0, 0, 0}
	one := []byte{64, 0, 0, 0, 0, 0, 0, 1}
	for i, c := range []struct {
		r api.Record
		b []byte
	}{
		{mark(258, -1), []byte{0, 0, 5, 1, 0, 1, 2, 0}},
		{mark(1, 0), []byte{0, 0, 5, 1, 0, 0, 1, 1}},
		{mark(70000, 2), []byte{0, 0, 5, 1, 1, 17, 112, 3}},
		{mark(top, 1), []byte{0, 0, 5, 1, 16, 0, 0, 2}},
		{line(515, nop(1, 0)), join([]byte{0, 0, 21, 2, 0, 2, 3}, one, zero, 1)},
		{line(top, api.Item{Term: 1, Time: 1}), join([]byte{0, 0, 29, 2, 16, 0, 0}, one, one, 0, zero)},
		{line(1, put(1, 0, "x")), join([]byte{0, 0, 51, 2, 0, 0, 1}, one, zero, 0, one, one, []byte{1, 1, 'k', 0, 1, 'x'}, zero)},
		{load(snap(258, 70000)), join([]byte{0, 0, 25, 3, 0, 1, 2, 1, 17, 112}, zero, 0, one, 0)},
		{load(snap(1, top)), join([]byte{0, 0, 25, 3, 0, 0, 1, 16, 0, 0}, zero, 0, one, 0)},
	} {
		for _, ahead := range [][]byte{nil, {}, {9}, bytesOf(mark(1, 1)), {0, 0, 0, 0}} {
			for synced := range len(ahead) + 1 {
				y, e := tape.Append(tapeOf(synced, ahead), c.r)
				if e != api.OK || !sameTape(y, tapeOf(synced, join(ahead, c.b))) {
					t.Errorf("case %d behind %v: %v %d", i, ahead, y, int(e))
				}
			}
		}
	}
}

// P6.4: records behind one another, the length of some with more than a byte.
func TestAppend(t *testing.T) {
	var x api.Tape
	var want []byte
	for i, r := range goodRecords() {
		y, e := tape.Append(x, r)
		if want = append(want, bytesOf(r)...); e != api.OK || !sameTape(y, tapeOf(x.Synced, want)) {
			t.Fatalf("record %d: %d bytes of %d, %d", i, len(y.Data), len(want), int(e))
		}
		if x = y; i%3 == 0 {
			x.Synced = len(want) - i
		}
	}
	if n := len(bytesOf(load(snapOf(1, 1, fullMachine())))); n < 3*256 {
		t.Errorf("the longest record has but %d bytes", n)
	}
}

// P6.4: what Check refuses, at a tape that has no room, too.
func TestAppendRefuses(t *testing.T) {
	for _, n := range []int{0, 3, api.MaxTape} {
		for _, c := range badRecords() {
			if y, e := tape.Append(tapeOf(n/2, make([]byte, n)), c.r); e != c.e || !none(y) {
				t.Errorf("%+v behind %d bytes: %d, want %d", c.r, n, int(e), int(c.e))
			}
		}
		for _, r := range []api.Record{{Kind: api.Mark, Index: 1}, {Kind: api.Line, Term: 1}, {Kind: api.Load, For: -1}} {
			if y, e := tape.Append(tapeOf(n, make([]byte, n)), r); e != api.ErrForm || !none(y) {
				t.Errorf("%+v behind %d bytes: %d", r, n, int(e))
			}
		}
	}
}

// P6.4: a tape has MaxTape bytes at most.
func TestAppendWithoutRoom(t *testing.T) {
	for _, r := range goodRecords() {
		room := len(bytesOf(r))
		for _, synced := range []int{0, 5} {
			x := tapeOf(synced, make([]byte, api.MaxTape-room))
			if y, e := tape.Append(x, r); e != api.OK || !sameTape(y, tapeOf(synced, join(x.Data, bytesOf(r)))) {
				t.Errorf("%+v: %d", r, int(e))
			}
			for _, n := range []int{api.MaxTape - room + 1, api.MaxTape - 1, api.MaxTape} {
				if y, e := tape.Append(tapeOf(synced, make([]byte, n, 2*api.MaxTape)), r); e != api.ErrFull || !none(y) {
					t.Errorf("%+v behind %d bytes: %d", r, n, int(e))
				}
			}
		}
	}
}

// P6.5
func TestSync(t *testing.T) {
	for _, b := range [][]byte{nil, {1}, {1, 2, 3}, bytesOf(goodRecords()...)} {
		for _, synced := range []int{0, len(b) / 2, len(b)} {
			if y, e := tape.Sync(tapeOf(synced, b)); e != api.OK || !sameTape(y, tapeOf(len(b), b)) {
				t.Errorf("%d of %v: %v %d", synced, b, y, int(e))
			}
		}
	}
}

// P6.6
func TestCrash(t *testing.T) {
	data := []byte{1, 2, 3, 4, 5, 6}
	for n := range len(data) + 1 {
		for synced := range n + 1 {
			for keep := range n + 2 {
				left := min(n, synced+keep)
				if y, e := tape.Crash(tapeOf(synced, data[:n]), keep); e != api.OK || !sameTape(y, tapeOf(left, data[:left])) {
					t.Errorf("%d of %d, %d kept: %v %d", synced, n, keep, y, int(e))
				}
			}
			for _, keep := range []int{math.MaxInt, math.MaxInt - 1, api.MaxTape, 1 << 32} {
				if y, e := tape.Crash(tapeOf(synced, data[:n]), keep); e != api.OK || !sameTape(y, tapeOf(n, data[:n])) {
					t.Errorf("%d of %d, %d kept: %v %d", synced, n, keep, y, int(e))
				}
			}
			for _, keep := range []int{-1, -6, math.MinInt} {
				if y, e := tape.Crash(tapeOf(synced, data[:n]), keep); e != api.ErrRange || !none(y) {
					t.Errorf("%d of %d, %d kept: %v %d", synced, n, keep, y, int(e))
				}
			}
		}
	}
}

// A tape that was handed in may go on in two ways.
func TestTwoAppendsBehindOneTape(t *testing.T) {
	x, _ := tape.Append(api.Tape{}, mark(1, 1))
	x.Data = append(make([]byte, 0, 1000), x.Data...)
	a, _ := tape.Append(x, mark(2, 2))
	b, _ := tape.Append(x, load(snapOf(3, 3, client.New())))
	if !bytes.Equal(a.Data, bytesOf(mark(1, 1), mark(2, 2))) || !bytes.Equal(b.Data, bytesOf(mark(1, 1), load(snap(3, 3)))) {
		t.Errorf("%v and %v", a, b)
	}
}
