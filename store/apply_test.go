package store_test

import (
	"math"
	"testing"

	"rostrum/api"
	"rostrum/store"
)

// P2.2: what is refused, the first error named, and nothing else with it.
func TestRefused(t *testing.T) {
	good := at(3, entry("k", text("x"), 0))
	bad := at(3, entry("k", text("x"), 3))
	get := plain(api.Get, "k")
	tooLong := long(api.MaxKey + 1)
	for i, c := range []struct {
		s    api.Store
		time int
		c    api.Command
		want api.Errno
	}{
		{bad, 3, get, api.ErrState}, {bad, -1, get, api.ErrState}, {bad, -1, api.Command{}, api.ErrState},
		{bad, api.MaxTime + 1, get, api.ErrState}, {at(-1), 0, keys, api.ErrState}, {at(api.MaxTime + 1), 0, keys, api.ErrState},
		{good, -1, get, api.ErrRange}, {good, api.MaxTime + 1, get, api.ErrRange}, {good, math.MinInt, get, api.ErrRange},
		{good, math.MaxInt, get, api.ErrRange}, {good, -1, api.Command{}, api.ErrRange}, {good, -1, plain(api.Get, ""), api.ErrRange},
		{good, 0, api.Command{}, api.ErrKind}, {good, 0, plain(api.Keys+1, "k"), api.ErrKind}, {good, 9, plain(-1, "k"), api.ErrKind},
		{good, 0, plain(api.Keys, "k"), api.ErrForm}, {good, 9, with(api.Del, "k", "x"), api.ErrForm}, {good, 9, num(api.Life, "k", 1), api.ErrForm},
		{good, 0, plain(api.Get, ""), api.ErrSize}, {good, 0, plain(api.Del, tooLong), api.ErrSize}, {good, 9, with(api.Put, "k", long(api.MaxText+1)), api.ErrSize},
		{good, 0, num(api.Expire, "k", api.MaxCount+1), api.ErrRange}, {good, 0, num(api.Add, "k", math.MinInt), api.ErrRange},
		{good, 0, num(api.Expire, tooLong, api.MaxCount+1), api.ErrSize},
	} {
		s, r, e := store.Apply(c.s, c.time, c.c)
		if e != c.want || !sameStore(s, api.Store{}) || !sameReply(r, api.Reply{}) {
			t.Errorf("case %d: %+v %+v %d, want nothing and %d", i, s, r, int(e), int(c.want))
		}
	}
}

// P2.2: the time goes on, and never back.
func TestTimeGoesOn(t *testing.T) {
	done(t, []deed{
		{at(0), 0, keys, at(0), listed()},
		{at(0), 7, keys, at(7), listed()},
		{at(5), 3, keys, at(5), listed()},
		{at(5), 5, keys, at(5), listed()},
		{at(5), 0, keys, at(5), listed()},
		{at(0), api.MaxTime, keys, at(api.MaxTime), listed()},
		{at(api.MaxTime), 0, keys, at(api.MaxTime), listed()},
		{at(0), 7, with(api.Put, "k", "x"), at(7, entry("k", text("x"), 0)), api.Reply{}},
	})
}

// P2.2: what has run out goes, at just that time, ahead of the command.
func TestRunsOut(t *testing.T) {
	x := text("x")
	s := at(1, entry("a", x, 5), entry("b", x, 0), entry("c", x, 6), entry("d", x, 5), entry("e", x, api.MaxTime))
	done(t, []deed{
		{s, 4, keys, at(4, s.Entries...), listed("a", "b", "c", "d", "e")},
		{s, 0, keys, s, listed("a", "b", "c", "d", "e")},
		{s, 5, keys, at(5, s.Entries[1], s.Entries[2], s.Entries[4]), listed("b", "c", "e")},
		{s, 6, keys, at(6, s.Entries[1], s.Entries[4]), listed("b", "e")},
		{s, api.MaxTime - 1, keys, at(api.MaxTime-1, s.Entries[1], s.Entries[4]), listed("b", "e")},
		{s, api.MaxTime, keys, at(api.MaxTime, s.Entries[1]), listed("b")},
		{at(0, entry("k", x, 1)), 1, plain(api.Get, "k"), at(1), code(api.ErrNone)},
		{at(0, entry("k", x, 1)), 0, plain(api.Get, "k"), at(0, entry("k", x, 1)), said("x")},
		{at(0, entry("k", x, 1)), 1, plain(api.Del, "k"), at(1), told(0)},
		{at(0, entry("k", x, 1)), 1, plain(api.Life, "k"), at(1), code(api.ErrNone)},
		{at(0, entry("k", x, 1)), 1, num(api.Expire, "k", 1), at(1), code(api.ErrNone)},
		{at(0, entry("k", count(4), 1)), 1, num(api.Add, "k", 3), at(1, entry("k", count(3), 0)), told(3)},
		{at(0, entry("k", list("a"), 9)), 9, with(api.Push, "k", "b"), at(9, entry("k", list("b"), 0)), told(1)},
		// A reply that is not OK leaves all else as it is: the time has gone on.
		{at(0, entry("a", x, 3), entry("k", x, 0)), 3, num(api.Add, "k", 1), at(3, entry("k", x, 0)), code(api.ErrType)},
		{at(0, entry("a", x, 3), entry("k", x, 0)), 3, plain(api.Get, "j"), at(3, entry("k", x, 0)), code(api.ErrNone)},
	})
}

// P2.2: room that comes of what has run out is there for the command.
func TestRoomOfWhatRanOut(t *testing.T) {
	s := full(0)
	s.Entries[4].Until = 2
	want := full(2)
	want.Entries[4] = entry("t04x", text("y"), 0)
	done(t, []deed{{s, 2, with(api.Put, "t04x", "y"), want, api.Reply{}}})
	late := full(1)
	late.Entries[4].Until = 2
	done(t, []deed{{s, 1, with(api.Put, "t04x", "y"), late, code(api.ErrFull)}})
}

// P2.3: Keys.
func TestKeys(t *testing.T) {
	done(t, []deed{
		{at(0), 0, keys, at(0), listed()},
		{full(2), 2, keys, full(2), listed(texts(api.MaxKeys)...)},
		{at(0, entry("B", text(""), 0), entry("a", count(1), 0)), 0, keys, at(0, entry("B", text(""), 0), entry("a", count(1), 0)), listed("B", "a")},
	})
}

// P2.3: Del.
func TestDel(t *testing.T) {
	a, b, c := entry("a", list("x"), 0), entry("b", count(1), 9), entry("c", text("x"), 0)
	done(t, []deed{
		{at(0), 0, plain(api.Del, "a"), at(0), told(0)},
		{at(0, a, b, c), 1, plain(api.Del, "a"), at(1, b, c), told(1)},
		{at(0, a, b, c), 1, plain(api.Del, "b"), at(1, a, c), told(1)},
		{at(0, a, b, c), 1, plain(api.Del, "c"), at(1, a, b), told(1)},
		{at(0, a, b, c), 1, plain(api.Del, "d"), at(1, a, b, c), told(0)},
		{at(0, a, b, c), 1, plain(api.Del, "aa"), at(1, a, b, c), told(0)},
		{at(0, a, b, c), 1, plain(api.Del, "A"), at(1, a, b, c), told(0)},
		{at(0, b), 0, plain(api.Del, "b"), at(0), told(1)},
	})
}

// P2.3: Expire, at the bounds of its number.
func TestExpire(t *testing.T) {
	k := func(until int) api.Entry { return entry("k", text("x"), until) }
	expire := func(n int) api.Command { return num(api.Expire, "k", n) }
	most := api.MaxTime
	done(t, []deed{
		{at(0), 0, expire(1), at(0), code(api.ErrNone)},
		{at(0), 0, expire(0), at(0), code(api.ErrNone)},
		{at(0), 4, expire(most + 1), at(4), code(api.ErrNone)},
		{at(0, k(0)), 0, expire(1), at(0, k(1)), api.Reply{}},
		{at(0, k(0)), 5, expire(4), at(5, k(9)), api.Reply{}},
		{at(5, k(0)), 2, expire(4), at(5, k(9)), api.Reply{}},
		{at(5, k(20)), 5, expire(4), at(5, k(9)), api.Reply{}},
		{at(5, k(7)), 5, expire(4), at(5, k(9)), api.Reply{}},
		{at(5, k(7)), 6, expire(0), at(6, k(7)), code(api.ErrRange)},
		{at(5, k(7)), 6, expire(-1), at(6, k(7)), code(api.ErrRange)},
		{at(5, k(0)), 6, expire(-api.MaxCount), at(6, k(0)), code(api.ErrRange)},
		{at(5, k(0)), 6, expire(api.MaxCount), at(6, k(0)), code(api.ErrRange)},
		{at(0, k(0)), 0, expire(most), at(0, k(most)), api.Reply{}},
		{at(0, k(0)), 0, expire(most + 1), at(0, k(0)), code(api.ErrRange)},
		{at(0, k(0)), 6, expire(most - 6), at(6, k(most)), api.Reply{}},
		{at(0, k(0)), 6, expire(most - 5), at(6, k(0)), code(api.ErrRange)},
		{at(0, k(0)), most - 1, expire(1), at(most-1, k(most)), api.Reply{}},
		{at(0, k(0)), most, expire(1), at(most, k(0)), code(api.ErrRange)},
		{at(0, k(0), entry("l", text("y"), 3)), 1, num(api.Expire, "l", 1), at(1, k(0), entry("l", text("y"), 2)), api.Reply{}},
	})
}

// P2.3: Life.
func TestLife(t *testing.T) {
	life := plain(api.Life, "k")
	k := func(until int) api.Entry { return entry("k", text("x"), until) }
	done(t, []deed{
		{at(3), 3, life, at(3), code(api.ErrNone)},
		{at(3, k(0)), 3, life, at(3, k(0)), told(0)},
		{at(3, k(4)), 3, life, at(3, k(4)), told(1)},
		{at(3, k(9)), 1, life, at(3, k(9)), told(6)},
		{at(3, k(9)), 5, life, at(5, k(9)), told(4)},
		{at(3, k(9)), 9, life, at(9), code(api.ErrNone)},
		{at(0, k(api.MaxTime)), 0, life, at(0, k(api.MaxTime)), told(api.MaxTime)},
		{at(0, entry("j", text(""), 8), k(9)), 1, life, at(1, entry("j", text(""), 8), k(9)), told(8)},
	})
}

// P2.4: a value is made where there was no key, and stands in its order.
func TestNewKeys(t *testing.T) {
	a, k, z := entry("a", text("x"), 9), entry("k", text("x"), 0), entry("z", text("x"), 0)
	long := long(api.MaxKey)
	hset := api.Command{Kind: api.HSet, Key: "m", Field: "f", Text: "y"}
	zadd := api.Command{Kind: api.ZAdd, Key: "m", Text: "y", N: -4}
	done(t, []deed{
		{at(1), 2, with(api.Put, "m", "y"), at(2, entry("m", text("y"), 0)), api.Reply{}},
		{at(1), 2, with(api.Put, "m", ""), at(2, entry("m", text(""), 0)), api.Reply{}},
		{at(1), 2, num(api.Add, "m", 0), at(2, entry("m", count(0), 0)), told(0)},
		{at(1), 2, hset, at(2, entry("m", hash("f", "y"), 0)), told(1)},
		{at(1), 2, with(api.Push, "m", "y"), at(2, entry("m", list("y"), 0)), told(1)},
		{at(1), 2, with(api.Front, "m", "y"), at(2, entry("m", list("y"), 0)), told(1)},
		{at(1), 2, with(api.SAdd, "m", "y"), at(2, entry("m", set("y"), 0)), told(1)},
		{at(1), 2, zadd, at(2, entry("m", rank("y", -4), 0)), told(1)},
		{at(0, a, k, z), 0, with(api.Put, "A", "y"), at(0, entry("A", text("y"), 0), a, k, z), api.Reply{}},
		{at(0, a, k, z), 0, with(api.Put, "m", "y"), at(0, a, k, entry("m", text("y"), 0), z), api.Reply{}},
		{at(0, a, k, z), 0, with(api.Put, "zz", "y"), at(0, a, k, z, entry("zz", text("y"), 0)), api.Reply{}},
		{at(0), 0, with(api.Put, long, "y"), at(0, entry(long, text("y"), 0)), api.Reply{}},
	})
	for _, kind := range []int{api.Get, api.Pop, api.Shift, api.Len, api.All, api.Life} {
		done(t, []deed{{at(0, a, k), 0, plain(kind, "m"), at(0, a, k), code(api.ErrNone)}})
	}
}

// P2.4: there is no room for one more than MaxKeys keys.
func TestFull(t *testing.T) {
	almost := full(0)
	almost.Entries = almost.Entries[:api.MaxKeys-1]
	room := full(0)
	room.Entries[api.MaxKeys-1] = entry("u", text("y"), 0)
	changed := full(0)
	changed.Entries[3].Value = text("y")
	longer := full(0)
	longer.Entries[0].Value = list("x", "y")
	done(t, []deed{
		{almost, 0, with(api.Put, "u", "y"), room, api.Reply{}},
		{full(0), 0, with(api.Put, "u", "y"), full(0), code(api.ErrFull)},
		{full(0), 5, with(api.Put, "a", "y"), full(5), code(api.ErrFull)},
		{full(0), 0, num(api.Add, "u", 3), full(0), code(api.ErrFull)},
		{full(0), 0, with(api.SAdd, "u", "y"), full(0), code(api.ErrFull)},
		{full(0), 0, plain(api.Get, "u"), full(0), code(api.ErrNone)},
		{full(0), 0, plain(api.Del, "u"), full(0), told(0)},
		{full(0), 0, with(api.Put, "t03", "y"), changed, api.Reply{}},
		{full(0), 0, with(api.Push, "t00", "y"), longer, told(2)},
	})
}

// P2.4: the value of a key that is there is changed; only a Put makes its Until 0.
func TestUntilStays(t *testing.T) {
	k := func(v api.Value, until int) api.Store { return at(1, entry("k", v, until)) }
	two := api.Value{Kind: api.Hash, Pairs: []api.Pair{{Field: "f", Text: "x"}, {Field: "g", Text: "y"}}}
	done(t, []deed{
		{k(text("x"), 9), 1, with(api.Put, "k", "y"), k(text("y"), 0), api.Reply{}},
		{k(text("x"), 9), 1, with(api.Put, "k", "x"), k(text("x"), 0), api.Reply{}},
		{k(list("x"), 9), 1, with(api.Put, "k", "y"), k(text("y"), 0), api.Reply{}},
		{k(text("x"), 0), 1, with(api.Put, "k", "y"), k(text("y"), 0), api.Reply{}},
		{k(text("x"), 9), 1, plain(api.Get, "k"), k(text("x"), 9), said("x")},
		{k(count(1), 9), 1, num(api.Add, "k", 2), k(count(3), 9), told(3)},
		{k(count(1), 9), 1, num(api.Add, "k", -1), k(count(0), 9), told(0)},
		{k(hash("f", "x"), 9), 1, api.Command{Kind: api.HSet, Key: "k", Field: "g", Text: "y"}, k(two, 9), told(1)},
		{k(two, 9), 1, api.Command{Kind: api.HDel, Key: "k", Field: "g"}, k(hash("f", "x"), 9), told(1)},
		{k(list("x"), 9), 1, with(api.Front, "k", "y"), k(list("y", "x"), 9), told(2)},
		{k(list("x", "y"), 9), 1, plain(api.Pop, "k"), k(list("x"), 9), said("y")},
		{k(set("x"), 9), 1, with(api.SAdd, "k", "y"), k(set("x", "y"), 9), told(1)},
		{k(set("x"), 9), 1, plain(api.All, "k"), k(set("x"), 9), listed("x")},
		{k(rank("x", 1), 9), 1, api.Command{Kind: api.ZAdd, Key: "k", Text: "x", N: 2}, k(rank("x", 2), 9), told(0)},
	})
}

// P2.2: a reply that is not OK leaves the key as it is, and says nothing else.
func TestFailedReplies(t *testing.T) {
	k := func(v api.Value) api.Store { return at(1, entry("k", v, 9)) }
	whole := list(texts(api.MaxItems)...)
	done(t, []deed{
		{k(count(api.MaxCount)), 1, num(api.Add, "k", 1), k(count(api.MaxCount)), code(api.ErrOver)},
		{k(whole), 1, with(api.Push, "k", "y"), k(whole), code(api.ErrFull)},
		{k(text("x")), 1, plain(api.Pop, "k"), k(text("x")), code(api.ErrType)},
		{k(hash("f", "x")), 1, api.Command{Kind: api.HGet, Key: "k", Field: "g"}, k(hash("f", "x")), code(api.ErrNone)},
	})
}

// P2.4: a key whose last element goes, goes.
func TestLastElement(t *testing.T) {
	a, z := entry("a", text("x"), 0), entry("z", text("x"), 9)
	for _, c := range []struct {
		v api.Value
		c api.Command
		r api.Reply
	}{
		{hash("f", "x"), api.Command{Kind: api.HDel, Key: "k", Field: "f"}, told(1)},
		{list("x"), plain(api.Pop, "k"), said("x")},
		{list("x"), plain(api.Shift, "k"), said("x")},
		{set("x"), with(api.SRem, "k", "x"), told(1)},
		{rank("x", 3), with(api.ZRem, "k", "x"), told(1)},
	} {
		done(t, []deed{
			{at(0, a, entry("k", c.v, 0), z), 0, c.c, at(0, a, z), c.r},
			{at(0, entry("k", c.v, 9)), 3, c.c, at(3), c.r},
		})
	}
}
