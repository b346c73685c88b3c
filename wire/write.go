package wire

import "rostrum/api"

// lift is added to a long number, so that those below 0 are told, too.
const lift = 1 << 62

// What says whether an item is a Nop.
const (
	isCall = 0
	isNop  = 1
)

// writer of bytes, of what may be: whatever is written small fits into a byte.
type writer struct {
	bytes []byte
}

func (w *writer) small(n int) { w.bytes = append(w.bytes, byte(n)) }

func (w *writer) long(n int) {
	lifted := uint64(n) + lift
	for shift := 56; shift >= 0; shift -= 8 {
		w.bytes = append(w.bytes, byte(lifted>>shift))
	}
}

func (w *writer) text(s string) {
	w.small(len(s))
	w.bytes = append(w.bytes, s...)
}

// writeList: how many elements there are, and these.
func writeList[T any](w *writer, l []T, write func(T)) {
	w.small(len(l))
	for _, x := range l {
		write(x)
	}
}

func (w *writer) texts(l []string) {
	writeList(w, l, func(s string) { w.text(s) })
}

func (w *writer) item(x api.Item) {
	w.long(x.Term)
	w.long(x.Time)
	if x.Nop {
		w.small(isNop)
		return
	}
	w.small(isCall)
	w.call(x.Call)
}

func (w *writer) call(c api.Call) {
	w.long(c.Client)
	if c.Client == 0 {
		return
	}
	w.long(c.Seq)
	w.small(c.Command.Kind)
	w.text(c.Command.Key)
	w.text(c.Command.Field)
	w.text(c.Command.Text)
	w.long(c.Command.N)
}

func (w *writer) machine(m api.Machine) {
	w.long(m.Store.Now)
	writeList(w, m.Store.Entries, func(x api.Entry) {
		w.text(x.Key)
		w.value(x.Value)
		w.long(x.Until)
	})
	w.long(m.Next)
	writeList(w, m.Clients, func(x api.Client) {
		w.long(x.Id)
		w.long(x.Seq)
		w.long(x.Time)
		w.reply(x.Reply)
	})
}

func (w *writer) value(v api.Value) {
	w.small(v.Kind)
	w.text(v.Text)
	w.long(v.Count)
	writeList(w, v.Pairs, func(p api.Pair) {
		w.text(p.Field)
		w.text(p.Text)
	})
	w.texts(v.Items)
	writeList(w, v.Scores, func(s api.Score) {
		w.text(s.Member)
		w.long(s.N)
	})
}

func (w *writer) reply(r api.Reply) {
	w.small(int(r.Code))
	w.text(r.Text)
	w.long(r.N)
	w.texts(r.List)
}
