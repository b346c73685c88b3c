package wire

import "rostrum/api"

// reader of bytes. Once there is a fault, nothing that was read, or will be, counts. The fields of a struct are read in the order in which its literal names them.
type reader struct {
	rest  []byte
	fault api.Errno // the first one
}

func (r *reader) fail(e api.Errno) {
	if r.fault == api.OK {
		r.fault = e
	}
	r.rest = nil
}

// end of the bytes: what is wrong with them?
func (r *reader) end() api.Errno {
	if len(r.rest) > 0 {
		return api.ErrForm
	}
	return r.fault
}

// take the next n bytes; none, if they end too early.
func (r *reader) take(n int) []byte {
	if n > len(r.rest) {
		r.fail(api.ErrShort)
		return nil
	}
	b := r.rest[:n]
	r.rest = r.rest[n:]
	return b
}

func (r *reader) small() int {
	b := r.take(1)
	if len(b) == 0 {
		return 0
	}
	return int(b[0])
}

func (r *reader) long() int {
	var lifted uint64
	for _, x := range r.take(8) {
		lifted = lifted<<8 | uint64(x)
	}
	return int(lifted - lift)
}

func (r *reader) text() string { return string(r.take(r.small())) }

// readList: as many elements as are said ahead of them, but none behind a fault.
func readList[T any](r *reader, read func() T) []T {
	var l []T
	for n := r.small(); n > 0 && r.fault == api.OK; n-- {
		l = append(l, read())
	}
	return l
}

func (r *reader) texts() []string {
	return readList(r, func() string { return r.text() })
}

func (r *reader) item() api.Item {
	x := api.Item{Term: r.long(), Time: r.long()}
	switch r.small() {
	case isCall:
		x.Call = r.call()
	case isNop:
		x.Nop = true
	default:
		r.fail(api.ErrForm)
	}
	return x
}

func (r *reader) call() api.Call {
	id := r.long()
	if id == 0 {
		return api.Call{}
	}
	return api.Call{Client: id, Seq: r.long(), Command: api.Command{
		Kind: r.small(), Key: r.text(), Field: r.text(), Text: r.text(), N: r.long(),
	}}
}

func (r *reader) machine() api.Machine {
	return api.Machine{
		Store: api.Store{Now: r.long(), Entries: readList(r, func() api.Entry {
			return api.Entry{Key: r.text(), Value: r.value(), Until: r.long()}
		})},
		Next: r.long(),
		Clients: readList(r, func() api.Client {
			return api.Client{Id: r.long(), Seq: r.long(), Time: r.long(), Reply: r.reply()}
		}),
	}
}

func (r *reader) value() api.Value {
	return api.Value{
		Kind:  r.small(),
		Text:  r.text(),
		Count: r.long(),
		Pairs: readList(r, func() api.Pair { return api.Pair{Field: r.text(), Text: r.text()} }),
		Items: r.texts(),
		Scores: readList(r, func() api.Score {
			return api.Score{Member: r.text(), N: r.long()}
		}),
	}
}

func (r *reader) reply() api.Reply {
	return api.Reply{Code: api.Errno(r.small()), Text: r.text(), N: r.long(), List: r.texts()}
}
