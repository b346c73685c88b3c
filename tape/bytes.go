package tape

import (
	"rostrum/api"
	"rostrum/wire"
)

// wide: how many bytes a number has.
const wide = 3

func putNumber(b []byte, n int) []byte {
	return append(b, byte(n>>16), byte(n>>8), byte(n))
}

// number at the beginning of bytes that are not too few.
func number(b []byte) int { return int(b[0])<<16 | int(b[1])<<8 | int(b[2]) }

// framed: the bytes of a record that may be, with their length ahead.
func framed(r api.Record) []byte {
	b := recordBytes(r)
	return append(putNumber(nil, len(b)), b...)
}

func recordBytes(r api.Record) []byte {
	b := []byte{byte(r.Kind)}
	switch r.Kind {
	case api.Mark:
		return append(putNumber(b, r.Term), byte(r.For+1))
	case api.Line:
		// No error can come of it, nor of the machine's bytes: the record may be.
		x, _ := wire.EncodeItem(r.Item)
		return append(putNumber(b, r.Index), x...)
	}
	m, _ := wire.Encode(r.Snap.Machine)
	return append(putNumber(putNumber(b, r.Snap.Index), r.Snap.Term), m...)
}

// readAll records that stand whole, one behind the other, from the first byte on, and how many bytes they take.
func readAll(b []byte) ([]api.Record, int) {
	var l []api.Record
	at := 0
	for {
		body := frame(b[at:])
		r, ok := readRecord(body)
		if !ok {
			return l, at
		}
		l = append(l, r)
		at += wide + len(body)
	}
}

// frame at the beginning of bytes: as many as are said ahead of them; none, if these are not there.
func frame(b []byte) []byte {
	if len(b) < wide || number(b) > len(b)-wide {
		return nil
	}
	return first(b[wide:], number(b))
}

// readRecord of all these bytes; ok: there is one, and it may be.
func readRecord(b []byte) (r api.Record, ok bool) {
	if len(b) <= wide { // behind its kind each has a number, at least
		return api.Record{}, false
	}
	r.Kind = int(b[0])
	n, rest := number(b[1:]), b[1+wide:]
	switch r.Kind {
	case api.Mark:
		r.Term = n
		r.For, ok = readVote(rest)
	case api.Line:
		r.Index = n
		r.Item, ok = readItem(rest)
	case api.Load:
		r.Snap, ok = readSnap(n, rest)
	}
	return r, ok && Check(r) == api.OK
}

// readVote: whom a Mark is for, of its last byte.
func readVote(b []byte) (int, bool) {
	if len(b) != 1 {
		return 0, false
	}
	return int(b[0]) - 1, true
}

func readItem(b []byte) (api.Item, bool) {
	x, e := wire.DecodeItem(b)
	return x, e == api.OK
}

// readSnap at a place, of the bytes behind that.
func readSnap(index int, b []byte) (api.Snap, bool) {
	if len(b) < wide {
		return api.Snap{}, false
	}
	m, e := wire.Decode(b[wide:])
	return api.Snap{Index: index, Term: number(b), Machine: m}, e == api.OK
}
