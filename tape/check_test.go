package tape_test

import (
	"testing"

	"rostrum/api"
	"rostrum/client"
	"rostrum/tape"
)

// P6.2
func TestSnaps(t *testing.T) {
	for _, m := range []api.Machine{client.New(), mixedMachine(), fullMachine()} {
		for _, n := range []int{1, 2, 258, top - 1, top} {
			for _, s := range []api.Snap{snapOf(n, 1, m), snapOf(1, n, m), snapOf(n, n, m)} {
				if e := tape.CheckSnap(s); e != api.OK {
					t.Errorf("%+v: %d", s, int(e))
				}
			}
		}
	}
	for _, n := range outside() {
		for _, m := range append(badMachines(), client.New()) { // the numbers are asked first
			for _, s := range []api.Snap{snapOf(n, 1, m), snapOf(1, n, m), snapOf(n, n, m)} {
				if e := tape.CheckSnap(s); e != api.ErrRange {
					t.Errorf("%+v: %d", s, int(e))
				}
			}
		}
	}
	for _, m := range badMachines() {
		if e := tape.CheckSnap(snapOf(1, 1, m)); e != api.ErrState {
			t.Errorf("%+v: %d", m, int(e))
		}
	}
}

// P6.3
func TestRecords(t *testing.T) {
	for _, r := range goodRecords() {
		if e := tape.Check(r); e != api.OK {
			t.Errorf("%+v: %d", r, int(e))
		}
	}
	for _, c := range badRecords() {
		if e := tape.Check(c.r); e != c.e {
			t.Errorf("%+v: %d, want %d", c.r, int(e), int(c.e))
		}
	}
}

// more: one thing that a record may have; of: the kind that has it.
type more struct {
	of  int
	set func(*api.Record)
}

func allMore() []more {
	return []more{
		{api.Mark, func(r *api.Record) { r.Term = 1 }},
		{api.Mark, func(r *api.Record) { r.Term = -1 }},
		{api.Mark, func(r *api.Record) { r.For = 1 }},
		{api.Mark, func(r *api.Record) { r.For = -1 }},
		{api.Line, func(r *api.Record) { r.Index = 1 }},
		{api.Line, func(r *api.Record) { r.Index = -1 }},
		{api.Line, func(r *api.Record) { r.Item.Term = 1 }},
		{api.Line, func(r *api.Record) { r.Item.Time = 1 }},
		{api.Line, func(r *api.Record) { r.Item.Nop = true }},
		{api.Line, func(r *api.Record) { r.Item.Call.Client = 1 }},
		{api.Line, func(r *api.Record) { r.Item.Call.Seq = 1 }},
		{api.Line, func(r *api.Record) { r.Item.Call.Command.Kind = api.Keys }},
		{api.Line, func(r *api.Record) { r.Item.Call.Command.Key = "k" }},
		{api.Line, func(r *api.Record) { r.Item.Call.Command.Field = "f" }},
		{api.Line, func(r *api.Record) { r.Item.Call.Command.Text = "t" }},
		{api.Line, func(r *api.Record) { r.Item.Call.Command.N = -1 }},
		{api.Load, func(r *api.Record) { r.Snap.Index = 1 }},
		{api.Load, func(r *api.Record) { r.Snap.Term = 1 }},
		{api.Load, func(r *api.Record) { r.Snap.Machine.Next = 1 }},
		{api.Load, func(r *api.Record) { r.Snap.Machine.Store.Now = 1 }},
		{api.Load, func(r *api.Record) { r.Snap.Machine.Store.Entries = make([]api.Entry, 1) }},
		{api.Load, func(r *api.Record) { r.Snap.Machine.Clients = make([]api.Client, 1) }},
	}
}

// P6.3: what a kind has not, it may not have; whatever else is wrong, that is told.
func TestRecordsWithMore(t *testing.T) {
	bad := []api.Record{mark(0, 0), mark(1, -2), line(0, nop(1, 0)), line(1, api.Item{}), line(1, put(3, -1, "x")), load(snap(0, 1)), load(snapOf(1, 1, api.Machine{}))}
	for _, r := range append(goodRecords(), bad...) {
		for i, m := range allMore() {
			x := r
			m.set(&x)
			if e := tape.Check(x); m.of != r.Kind && e != api.ErrForm {
				t.Errorf("%+v with more (%d): %d", r, i, int(e))
			}
			x.Kind = 4
			if e := tape.Check(x); e != api.ErrKind {
				t.Errorf("%+v: %d", x, int(e))
			}
		}
	}
}

// P6.3: lists without elements are nothing, be they nil or not.
func TestRecordsWithEmptyLists(t *testing.T) {
	for _, r := range []api.Record{mark(1, 1), line(1, nop(1, 0)), load(snap(1, 1))} {
		r.Snap.Machine.Store.Entries = make([]api.Entry, 0, 3)
		r.Snap.Machine.Clients = []api.Client{}
		if e := tape.Check(r); e != api.OK {
			t.Errorf("%+v: %d", r, int(e))
		}
	}
}

// P6.3: an index that is none is told ahead of what is wrong with the item, and those of a snap ahead of its machine.
func TestFirstFaultOfRecords(t *testing.T) {
	for _, n := range outside() {
		for _, x := range badItems() {
			if e := tape.Check(line(n, x)); e != api.ErrRange {
				t.Errorf("%d, %+v: %d", n, x, int(e))
			}
		}
		for _, m := range badMachines() {
			if e := tape.Check(load(snapOf(n, 1, m))); e != api.ErrRange {
				t.Errorf("%d, %+v: %d", n, m, int(e))
			}
		}
	}
}
