package tape_test

import (
	"bytes"
	"encoding/binary"
	"testing"

	"rostrum/api"
	"rostrum/client"
	"rostrum/tape"
	"rostrum/wire"
)

// few records of each kind.
func fewRecords() []api.Record {
	return []api.Record{mark(258, -1), line(1, nop(1, 0)), line(2, put(2, 5, "x")), load(snap(2, 2)), mark(3, 2), line(3, api.Item{Term: 3, Time: 9}), load(snapOf(3, 3, mixedMachine())), mark(4, 0)}
}

// whole records that the first n bytes have, and how many bytes these are.
func wholeOnes(l []api.Record, n int) ([]api.Record, int) {
	length := 0
	for i, r := range l {
		b := bytesOf(r)
		if length+len(b) > n {
			return l[:i], length
		}
		length += len(b)
	}
	return l, length
}

func recovered(t *testing.T, x api.Tape, want []api.Record, left int) {
	t.Helper()
	l, y, e := tape.Recover(x)
	if e != api.OK || !same(l, want) {
		t.Errorf("%v: %+v %d, want %+v", x, l, int(e), want)
	}
	if !sameTape(y, tapeOf(min(x.Synced, left), x.Data[:left])) {
		t.Errorf("%v: %d of %d bytes are left, want %d", x, y.Synced, len(y.Data), left)
	}
}

// P6.7: what was appended.
func TestRecoverAll(t *testing.T) {
	recovered(t, api.Tape{}, nil, 0)
	recovered(t, tapeOf(0, []byte{}), nil, 0)
	all := bytesOf(goodRecords()...)
	for _, synced := range []int{0, 1, len(all) / 2, len(all)} {
		recovered(t, tapeOf(synced, all), goodRecords(), len(all))
	}
	for _, r := range goodRecords() {
		recovered(t, tapeOf(0, bytesOf(r)), []api.Record{r}, len(bytesOf(r)))
	}
}

// P6.7: torn at each of its bytes.
func TestRecoverTorn(t *testing.T) {
	l := fewRecords()
	all := bytesOf(l...)
	for n := range len(all) + 1 {
		want, left := wholeOnes(l, n)
		for _, synced := range []int{0, left - 1, left, left + 1, n} {
			if synced >= 0 && synced <= n {
				recovered(t, tapeOf(synced, all[:n]), want, left)
			}
		}
	}
}

// noRecords: bytes with a length ahead, or none, that are not those of a record.
func noRecords() [][]byte {
	m, x := machineBytes(client.New()), itemBytes(nop(1, 0))
	return [][]byte{
		{0}, {0, 0}, {0, 0, 0}, {0, 0, 1}, {0, 0, 1, 1}, {0, 0, 1, 2}, {0, 0, 1, 3}, {0, 0, 1, 0}, {0, 0, 3, 1, 0, 0}, {0, 0, 4, 1, 0, 0, 1}, {0, 0, 4, 2, 0, 0, 1}, {0, 0, 4, 3, 0, 0, 1},
		{0, 0, 5, 1, 0, 0, 1}, {0, 1, 5, 1, 0, 0, 1, 1}, {1, 0, 5, 1, 0, 0, 1, 1}, {255, 255, 255, 1, 0, 0, 1, 1},
		inFrame(0, three(1), 1), inFrame(4, three(1), 1), inFrame(255, three(1), 1), // no kind
		inFrame(1, three(0), 1), inFrame(1, three(top+1), 1), inFrame(1, three(1<<24-1), 1), // no term
		inFrame(1, three(1), api.Nodes+1), inFrame(1, three(1), 255), // no node
		inFrame(1, three(1), 1, 0), inFrame(1, three(1), 1, 1), inFrame(1, three(1), bytesOf(mark(1, 1))), // more
		inFrame(2, three(0), x), inFrame(2, three(top+1), x), inFrame(2, three(1), x[:len(x)-1]), inFrame(2, three(1), x, 0), inFrame(2, three(1), x, x),
		inFrame(2, three(1), x[:16], 2), inFrame(2, three(1), x[1:]), inFrame(2, three(1), m),
		inFrame(3, three(0), three(1), m), inFrame(3, three(1), three(0), m), inFrame(3, three(top+1), three(1), m), inFrame(3, three(1), three(top+1), m),
		inFrame(3, three(1), three(1), m[:len(m)-1]), inFrame(3, three(1), three(1), m, 0), inFrame(3, three(1), m), inFrame(3, three(1), three(1), x),
		inFrame(3, three(1)), inFrame(3, three(1), 0), inFrame(3, three(1), 0, 0), inFrame(3, three(1), three(1)),
		inFrame(3, three(1), three(1), make([]byte, api.MaxBytes+1)), inFrame(2, three(1), make([]byte, api.MaxBytes+1)),
		make([]byte, 9),
		inFrame(2, three(1), x[:7], 0, x[8:]),             // a term of 0
		inFrame(2, three(1), x[:8], 63, x[9:]),            // a time below 0
		inFrame(3, three(1), three(1), m[:16], 0, m[17:]), // a next one of 0
		inFrame(3, three(1), three(1), 128, m[1:]),        // a time that is too late
	}
}

// P6.7: behind bytes that are no record nothing is read, be it whole.
func TestRecoverStops(t *testing.T) {
	for i, b := range noRecords() {
		for _, ahead := range [][]api.Record{nil, {mark(1, 1)}, fewRecords()} {
			start := bytesOf(ahead...)
			x := tapeOf(0, join(start, b))
			l, y, e := tape.Recover(x)
			if e != api.OK || !same(l, ahead) || !sameTape(y, tapeOf(0, start)) {
				t.Errorf("case %d: %v %d", i, l, int(e))
			}
		}
	}
	for _, b := range noRecords() {
		if len(b) >= 3 && bytes.Equal(b[:3], three(len(b)-3)) { // the length is right
			recovered(t, tapeOf(11, join(bytesOf(mark(1, 1)), b, bytesOf(mark(2, 2)))), []api.Record{mark(1, 1)}, 8)
		}
	}
}

// modelled Recover: by cuts, of which each is tried as a record of each kind.
func modelled(b []byte) ([]api.Record, int) {
	var l []api.Record
	done := 0
	for {
		rest := b[done:]
		if len(rest) < 3 {
			return l, done
		}
		n := int(binary.BigEndian.Uint32(append([]byte{0}, rest[:3]...)))
		if n == 0 || len(rest) < 3+n {
			return l, done
		}
		r := tried(rest[3 : 3+n])
		if tape.Check(r) != api.OK || !bytes.Equal(bytesOf(r), rest[:3+n]) {
			return l, done
		}
		l, done = append(l, r), done+3+n
	}
}

// tried: the only record whose bytes these could be.
func tried(b []byte) api.Record {
	of := func(at int) int {
		if len(b) < at+3 {
			return 0
		}
		return int(binary.BigEndian.Uint32(append([]byte{0}, b[at:at+3]...)))
	}
	switch b[0] {
	case 1:
		return mark(of(1), int(b[len(b)-1])-1)
	case 2:
		x, _ := wire.DecodeItem(b[min(4, len(b)):])
		return line(of(1), x)
	case 3:
		m, _ := wire.Decode(b[min(7, len(b)):])
		return load(snapOf(of(1), of(4), m))
	}
	return api.Record{}
}

// P6.7: whatever bytes there are: those of which one is altered, some are lost, or that look drawn.
func TestRecoverAltered(t *testing.T) {
	l := fewRecords()
	all := bytesOf(l...)
	check := func(b []byte, synced int) {
		want, left := modelled(b)
		recovered(t, tapeOf(synced, b), want, left)
	}
	r := die(3)
	for at := range all {
		for _, x := range []byte{0, 1, 2, 3, 4, 63, 64, 255, all[at] + 1, all[at] - 1} {
			b := bytes.Clone(all)
			b[at] = x
			check(b, r.n(len(b)+1))
		}
		check(join(all[:at], all[at+1:]), at)
		check(all[at:], r.n(len(all)-at+1))
	}
	for range 20000 {
		b := make([]byte, r.n(40))
		for i := range b {
			b[i] = []byte{0, 0, 0, 0, 1, 1, 2, 3, 5, byte(r.n(256))}[r.n(10)]
		}
		check(b, r.n(len(b)+1))
	}
}

// P6.7: a tape of MaxTape bytes.
func TestRecoverMany(t *testing.T) {
	b := bytes.Repeat(bytesOf(mark(3, 1)), api.MaxTape/8)
	l, x, e := tape.Recover(tapeOf(9, b))
	if e != api.OK || len(l) != api.MaxTape/8 || !sameTape(x, tapeOf(9, b)) {
		t.Fatalf("%d records, %d of %d bytes, %d", len(l), x.Synced, len(x.Data), int(e))
	}
	for _, r := range l {
		if !same(r, mark(3, 1)) {
			t.Fatalf("%+v", r)
		}
	}
	big := bytesOf(load(snapOf(1, 1, fullMachine())))
	b = bytes.Repeat(big, api.MaxTape/len(big)+1)[:api.MaxTape]
	left := api.MaxTape / len(big) * len(big)
	if l, x, e := tape.Recover(tapeOf(api.MaxTape, b)); e != api.OK || len(l) != api.MaxTape/len(big) || !sameTape(x, tapeOf(left, b[:left])) {
		t.Errorf("%d records, %d of %d bytes, %d", len(l), x.Synced, len(x.Data), int(e))
	}
}
