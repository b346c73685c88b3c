package store_test

import (
	"math"
	"slices"
	"testing"

	"rostrum/api"
	"rostrum/store"
)

type storeCase struct {
	s    api.Store
	want api.Errno
}

func checked(t *testing.T, l []storeCase) {
	t.Helper()
	for i, c := range l {
		if e := store.Check(c.s); e != c.want {
			t.Errorf("case %d: %+v: %d, want %d", i, c.s, int(e), int(c.want))
		}
	}
}

// P2.1: the time that is now.
func TestNow(t *testing.T) {
	checked(t, []storeCase{
		{api.Store{}, api.OK}, {at(1), api.OK}, {at(api.MaxTime), api.OK},
		{at(-1), api.ErrState}, {at(api.MaxTime + 1), api.ErrState},
		{at(math.MaxInt), api.ErrState}, {at(math.MinInt), api.ErrState},
		{api.Store{Entries: []api.Entry{}}, api.OK},
	})
}

// P2.1: how many keys there are, how long they are, and that they rise.
func TestKeysOfStores(t *testing.T) {
	over := full(0)
	over.Entries = append(over.Entries, entry("u", list("x"), 0))
	turned := full(0)
	slices.Reverse(turned.Entries)
	x := text("x")
	checked(t, []storeCase{
		{full(0), api.OK}, {over, api.ErrState}, {turned, api.ErrState},
		{at(0, entry("", x, 0)), api.ErrState},
		{at(0, entry("a", x, 0)), api.OK},
		{at(0, entry(long(api.MaxKey), x, 0)), api.OK},
		{at(0, entry(long(api.MaxKey+1), x, 0)), api.ErrState},
		{at(0, entry("a", x, 0), entry("b", x, 0)), api.OK},
		{at(0, entry("b", x, 0), entry("a", x, 0)), api.ErrState},
		{at(0, entry("a", x, 0), entry("a", x, 0)), api.ErrState},
		{at(0, entry("a", x, 0), entry("b", x, 0), entry("b", text("y"), 0)), api.ErrState},
		{at(0, entry("a", x, 0), entry("c", x, 0), entry("b", x, 0)), api.ErrState},
		{at(0, entry("B", x, 0), entry("a", x, 0), entry("aa", x, 0), entry("\xff", x, 0)), api.OK},
		{at(0, entry("aa", x, 0), entry("a", x, 0)), api.ErrState},
	})
}

// P2.1: values may be.
func TestValuesOfStores(t *testing.T) {
	for _, v := range []api.Value{text(""), text(long(api.MaxText)), count(0), count(-api.MaxCount), hash("f", ""), list("b", "a"), set("a", "b"), rank("", 0)} {
		checked(t, []storeCase{{at(0, entry("a", text(""), 0), entry("k", v, 0), entry("z", text(""), 0)), api.OK}})
	}
	for _, v := range []api.Value{{}, {Kind: 7}, {Kind: -1}, {Kind: api.Text, Count: 1}, text(long(api.MaxText + 1)),
		count(api.MaxCount + 1), hash("", ""), list(), set("b", "a"), rank("a", -api.MaxCount-1)} {
		checked(t, []storeCase{
			{at(0, entry("k", v, 0)), api.ErrState},
			{at(0, entry("a", text(""), 0), entry("k", v, 0), entry("z", text(""), 0)), api.ErrState},
			{at(0, entry("a", text(""), 0), entry("k", v, 0)), api.ErrState},
		})
	}
}

// P2.1: till when entries are there.
func TestUntilOfStores(t *testing.T) {
	x := text("x")
	for _, c := range []struct {
		now, until int
		want       api.Errno
	}{
		{0, 0, api.OK}, {5, 0, api.OK}, {api.MaxTime, 0, api.OK},
		{0, 1, api.OK}, {5, 6, api.OK}, {5, 5, api.ErrState}, {5, 4, api.ErrState}, {5, 1, api.ErrState}, {5, -1, api.ErrState},
		{0, api.MaxTime, api.OK}, {api.MaxTime - 1, api.MaxTime, api.OK}, {api.MaxTime, api.MaxTime, api.ErrState},
		{0, api.MaxTime + 1, api.ErrState}, {api.MaxTime, api.MaxTime + 1, api.ErrState},
		{0, math.MaxInt, api.ErrState}, {0, math.MinInt, api.ErrState}, {0, -1, api.ErrState},
	} {
		checked(t, []storeCase{
			{at(c.now, entry("k", x, c.until)), c.want},
			{at(c.now, entry("a", x, 0), entry("k", x, c.until), entry("z", x, 0)), c.want},
		})
	}
}
