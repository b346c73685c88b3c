package store

import (
	"cmp"
	"slices"

	"rostrum/api"
	"rostrum/fresh"
	"rostrum/value"
)

// deed: what is done with a key. The store is its own, and may be changed.
type deed struct {
	api.Store
	command api.Command
	at      int // where the entry of the key stands, or would stand
	found   bool
}

// begin a deed: the time goes on, then the key is looked for.
func begin(s api.Store, time int, c api.Command) *deed {
	d := &deed{Store: fresh.Store(s), command: c}
	d.goOn(time)
	d.at, d.found = slices.BinarySearchFunc(d.Entries, c.Key, func(x api.Entry, key string) int {
		return cmp.Compare(x.Key, key)
	})
	return d
}

// goOn to a time, if that is later; what has run out then goes.
func (d *deed) goOn(time int) {
	d.Now = max(d.Now, time)
	d.Entries = slices.DeleteFunc(d.Entries, func(x api.Entry) bool {
		return x.Until != 0 && x.Until <= d.Now
	})
}

func (d *deed) answer() api.Reply {
	switch d.command.Kind {
	case api.Keys:
		return api.Reply{List: d.keys()}
	case api.Del:
		return d.remove()
	case api.Expire:
		return d.expire()
	case api.Life:
		return d.life()
	}
	return d.change()
}

func (d *deed) keys() []string {
	var l []string
	for _, x := range d.Entries {
		l = append(l, x.Key)
	}
	return l
}

func (d *deed) remove() api.Reply {
	if !d.found {
		return api.Reply{}
	}
	d.drop()
	return api.Reply{N: 1}
}

// drop the entry that was found.
func (d *deed) drop() { d.Entries = slices.Delete(d.Entries, d.at, d.at+1) }

func (d *deed) expire() api.Reply {
	n := d.command.N
	switch {
	case !d.found:
		return api.Reply{Code: api.ErrNone}
	case n < 1 || n > api.MaxTime-d.Now:
		return api.Reply{Code: api.ErrRange}
	}
	d.Entries[d.at].Until = d.Now + n
	return api.Reply{}
}

func (d *deed) life() api.Reply {
	if !d.found {
		return api.Reply{Code: api.ErrNone}
	}
	until := d.Entries[d.at].Until
	if until == 0 {
		return api.Reply{}
	}
	return api.Reply{N: until - d.Now}
}

// change the value of the key, as the command asks.
func (d *deed) change() api.Reply {
	var v api.Value
	if d.found {
		v = d.Entries[d.at].Value
	}
	// No error can come of it: the value and the command were checked, and it is no command about keys.
	v, r, _ := value.Do(v, d.command)
	if r.Code != api.OK {
		return r
	}
	if e := d.lay(v); e != api.OK {
		return api.Reply{Code: e}
	}
	return r
}

// lay a value under the key; of the kind 0 it is none.
func (d *deed) lay(v api.Value) api.Errno {
	switch {
	case v.Kind == 0:
		d.drop() // of no value none is made, so the key was found
	case d.found:
		d.replace(v)
	case len(d.Entries) >= api.MaxKeys:
		return api.ErrFull
	default:
		d.Entries = slices.Insert(d.Entries, d.at, api.Entry{Key: d.command.Key, Value: v})
	}
	return api.OK
}

func (d *deed) replace(v api.Value) {
	d.Entries[d.at].Value = v
	if d.command.Kind == api.Put {
		d.Entries[d.at].Until = 0
	}
}
