package tape

import (
	"rostrum/api"
	"rostrum/client"
	"rostrum/fresh"
	"rostrum/ledger"
)

// New disk: nothing is on it.
func New() api.Disk {
	return api.Disk{For: -1, Snap: api.Snap{Machine: client.New()}}
}

// Fold records to a disk.
func Fold(l []api.Record) (api.Disk, api.Errno) {
	d := New()
	for _, r := range l {
		if e := fold(&d, r); e != api.OK {
			return api.Disk{}, e
		}
	}
	// Till now the snap's lists are those of a record.
	d.Snap.Machine = fresh.Machine(d.Snap.Machine)
	return d, api.OK
}

// Rest of a log behind a snap: what fits it; else nothing.
func Rest(l api.Log, s api.Snap) (api.Log, api.Errno) {
	if e := ledger.Check(l); e != api.OK {
		return api.Log{}, e
	}
	if e := CheckSnap(s); e != api.OK {
		return api.Log{}, e
	}
	return rest(l, s), api.OK
}

// rest of a log that may be behind a snap that may be.
func rest(l api.Log, s api.Snap) api.Log {
	out, e := ledger.Trim(l, s.Index)
	if e != api.OK || out.BaseTerm != s.Term {
		return api.Log{Base: s.Index, BaseTerm: s.Term}
	}
	return out
}

// fold one more record to a disk, whose log is its own to change.
func fold(d *api.Disk, r api.Record) api.Errno {
	if e := Check(r); e != api.OK {
		return e
	}
	switch r.Kind {
	case api.Mark:
		d.Term, d.For = r.Term, r.For
	case api.Line:
		return foldLine(&d.Log, r)
	case api.Load:
		if r.Snap.Index > d.Snap.Index {
			d.Snap, d.Log = r.Snap, rest(d.Log, r.Snap)
		}
	}
	return api.OK
}

func foldLine(l *api.Log, r api.Record) api.Errno {
	ahead := r.Index - l.Base - 1
	switch {
	case ahead < 0:
		return api.OK
	case ahead > len(l.Items):
		return api.ErrOrder
	}
	kept := api.Log{Base: l.Base, BaseTerm: l.BaseTerm, Items: l.Items[:ahead]}
	if !mayFollow(kept, r.Item) {
		return api.ErrOrder
	}
	l.Items = append(kept.Items, r.Item)
	return api.OK
}

// mayFollow: may the log be with one more item? As both may be, only what stands right ahead of the item is asked: else each line of a tape would cost a walk through the log.
func mayFollow(l api.Log, x api.Item) bool {
	n := len(l.Items)
	if n == 0 {
		return x.Term >= l.BaseTerm
	}
	last := l.Items[n-1]
	return n < api.MaxLog && x.Term >= last.Term && x.Time >= last.Time
}
