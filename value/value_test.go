package value_test

import (
	"math"
	"testing"

	"rostrum/api"
	"rostrum/value"
)

var none = api.Value{}

// P1.4: what is refused, in which order, and that nothing else is told then.
func TestRefused(t *testing.T) {
	badValue, badCommand := set("b", "a"), api.Command{Kind: api.Get}
	tooFar := api.Command{Kind: api.Expire, Key: "k", N: most + 1}
	for i, c := range []struct {
		v    api.Value
		c    api.Command
		want api.Errno
	}{
		{badValue, plain(api.Len), api.ErrOrder},
		{badValue, badCommand, api.ErrOrder},
		{badValue, with(api.Put, "x"), api.ErrOrder},
		{api.Value{Text: "x"}, with(api.Put, "y"), api.ErrKind},
		{api.Value{Count: 1}, plus(1), api.ErrKind},
		{api.Value{Items: []string{""}}, with(api.Put, "y"), api.ErrKind},
		{api.Value{Pairs: []api.Pair{{}}}, with(api.Put, "y"), api.ErrKind},
		{api.Value{Scores: []api.Score{{}}}, with(api.Put, "y"), api.ErrKind},
		{api.Value{Kind: api.List}, with(api.Push, "y"), api.ErrSize},
		{api.Value{Kind: 7}, with(api.Put, "y"), api.ErrKind},
		{text("x"), badCommand, api.ErrSize},
		{none, badCommand, api.ErrSize},
		{none, api.Command{Kind: 23, Key: "k"}, api.ErrKind},
		{none, api.Command{}, api.ErrKind},
		{none, plus(most + 1), api.ErrRange},
		{none, api.Command{Kind: api.Pop, Key: "k", N: 1}, api.ErrForm},
		{count(1), plus(math.MinInt), api.ErrRange},
		{text("x"), plain(api.Del), api.ErrKind},
		{none, plain(api.Del), api.ErrKind},
		{none, plain(api.Life), api.ErrKind},
		{list("a"), plain(api.Life), api.ErrKind},
		{none, api.Command{Kind: api.Keys}, api.ErrKind},
		{list("a"), api.Command{Kind: api.Keys}, api.ErrKind},
		{none, api.Command{Kind: api.Expire, Key: "k", N: 5}, api.ErrKind},
		{none, api.Command{Kind: api.Del}, api.ErrSize},
		{none, api.Command{Kind: api.Keys, Key: "k"}, api.ErrForm},
		{none, tooFar, api.ErrRange},
		{badValue, tooFar, api.ErrOrder},
	} {
		v, r, e := value.Do(c.v, c.c)
		if e != c.want || !sameValue(v, none) || !sameReply(r, api.Reply{}) {
			t.Errorf("case %d: %+v %+v %d, want %d and nothing else", i, v, r, int(e), int(c.want))
		}
	}
}

// ordinary: a command of each kind that may be done with a value.
func ordinary() []api.Command {
	return []api.Command{
		with(api.Put, "x"), plain(api.Get), plus(1),
		field(api.HSet, "f", "x"), field(api.HGet, "f", ""), field(api.HDel, "f", ""),
		with(api.Push, "x"), with(api.Front, "x"), plain(api.Pop), plain(api.Shift),
		with(api.SAdd, "x"), with(api.SRem, "x"), with(api.SHas, "x"),
		zadd("x", 1), with(api.ZRem, "x"), with(api.ZRank, "x"),
		plain(api.Len), plain(api.All),
	}
}

// P1.4: of no value some commands make one, the others find none.
func TestOfNone(t *testing.T) {
	made := map[int]deed{
		api.Put:   {want: text("x")},
		api.Add:   {want: count(1), r: told(1)},
		api.HSet:  {want: hash(pair("f", "x")), r: told(1)},
		api.Push:  {want: list("x"), r: told(1)},
		api.Front: {want: list("x"), r: told(1)},
		api.SAdd:  {want: set("x"), r: told(1)},
		api.ZAdd:  {want: rank(score("x", 1)), r: told(1)},
	}
	bare := api.Value{Pairs: []api.Pair{}, Items: make([]string, 0, 4), Scores: []api.Score{}}
	for _, c := range ordinary() {
		d, ok := made[c.Kind]
		if !ok {
			d = deed{r: code(api.ErrNone)}
		}
		done(t, []deed{{none, c, d.want, d.r}, {bare, c, d.want, d.r}})
	}
	done(t, []deed{
		{none, with(api.Put, ""), text(""), api.Reply{}},
		{none, plus(0), count(0), told(0)},
		{none, plus(-most), count(-most), told(-most)},
		{none, plus(most), count(most), told(most)},
		{none, with(api.Push, ""), list(""), told(1)},
		{none, zadd("", 0), rank(score("", 0)), told(1)},
	})
}

// P1.4: a value of another kind than the command's is left as it is.
func TestType(t *testing.T) {
	kinds := map[int]int{
		api.Get: api.Text, api.Add: api.Count, api.HSet: api.Hash, api.HGet: api.Hash, api.HDel: api.Hash,
		api.Push: api.List, api.Front: api.List, api.Pop: api.List, api.Shift: api.List,
		api.SAdd: api.Set, api.SRem: api.Set, api.SHas: api.Set,
		api.ZAdd: api.Rank, api.ZRem: api.Rank, api.ZRank: api.Rank,
	}
	values := []api.Value{text("x"), count(7), hash(pair("f", "x")), list("x"), set("x"), rank(score("x", 1))}
	for _, c := range ordinary() {
		for _, v := range values {
			wrong := kinds[c.Kind] != v.Kind
			switch c.Kind {
			case api.Put:
				wrong = false
			case api.Len, api.All:
				wrong = v.Kind == api.Text || v.Kind == api.Count
			}
			w, r, e := value.Do(v, c)
			if e != api.OK || (r.Code == api.ErrType) != wrong {
				t.Errorf("%+v with %+v: %+v %+v %d", c, v, w, r, int(e))
			}
			if wrong && (!sameValue(v, w) || !sameReply(r, code(api.ErrType))) {
				t.Errorf("%+v changes %+v to %+v, and says %+v", c, v, w, r)
			}
		}
	}
	done(t, []deed{{text(""), plus(1), text(""), code(api.ErrType)}, {count(0), with(api.Push, "x"), count(0), code(api.ErrType)}})
}

// P1.4: Put, Get, Add, Len and All.
func TestPlainCommands(t *testing.T) {
	full := texts(api.MaxItems)
	done(t, []deed{
		{text("old"), with(api.Put, "new"), text("new"), api.Reply{}},
		{count(5), with(api.Put, ""), text(""), api.Reply{}},
		{hashOf(api.MaxItems), with(api.Put, "x"), text("x"), api.Reply{}},
		{list("a"), with(api.Put, "x"), text("x"), api.Reply{}},
		{set("a"), with(api.Put, "x"), text("x"), api.Reply{}},
		{rankOf(2), with(api.Put, long(api.MaxText)), text(long(api.MaxText)), api.Reply{}},
		{text("abc"), plain(api.Get), text("abc"), said("abc")},
		{text(""), plain(api.Get), text(""), said("")},
		{count(5), plus(-7), count(-2), told(-2)},
		{count(0), plus(0), count(0), told(0)},
		{count(3), plus(-3), count(0), told(0)},
		{count(most - 1), plus(1), count(most), told(most)},
		{count(most), plus(1), count(most), code(api.ErrOver)},
		{count(most), plus(most), count(most), code(api.ErrOver)},
		{count(1 - most), plus(-1), count(-most), told(-most)},
		{count(-most), plus(-1), count(-most), code(api.ErrOver)},
		{count(-most), plus(most), count(0), told(0)},
		{hashOf(3), plain(api.Len), hashOf(3), told(3)},
		{list(full...), plain(api.Len), list(full...), told(api.MaxItems)},
		{set("a"), plain(api.Len), set("a"), told(1)},
		{rankOf(2), plain(api.Len), rankOf(2), told(2)},
		{hash(pair("a", "z"), pair("b", "y")), plain(api.All), hash(pair("a", "z"), pair("b", "y")), listed("a", "b")},
		{list("b", "a", "b"), plain(api.All), list("b", "a", "b"), listed("b", "a", "b")},
		{set("a", "b"), plain(api.All), set("a", "b"), listed("a", "b")},
		{set(full...), plain(api.All), set(full...), listed(full...)},
		{rank(score("z", 1), score("a", 2)), plain(api.All), rank(score("z", 1), score("a", 2)), listed("z", "a")},
	})
}

// P1.4: a value whose last element goes is none.
func TestLastElement(t *testing.T) {
	done(t, []deed{
		{hash(pair("f", "x")), field(api.HDel, "f", ""), none, told(1)},
		{list("a"), plain(api.Pop), none, said("a")},
		{list("a"), plain(api.Shift), none, said("a")},
		{list(""), plain(api.Pop), none, said("")},
		{set("a"), with(api.SRem, "a"), none, told(1)},
		{set(""), with(api.SRem, ""), none, told(1)},
		{rank(score("a", 3)), with(api.ZRem, "a"), none, told(1)},
		{text("x"), with(api.Put, ""), text(""), api.Reply{}},
		{count(1), plus(-1), count(0), told(0)},
	})
}

// P1.5: the fields of a hash.
func TestHash(t *testing.T) {
	two := hash(pair("b", "1"), pair("d", "2"))
	full := hashOf(api.MaxItems)
	changed := own(full)
	changed.Pairs[7].Text = "new"
	done(t, []deed{
		{two, field(api.HSet, "a", "x"), hash(pair("a", "x"), pair("b", "1"), pair("d", "2")), told(1)},
		{two, field(api.HSet, "c", "x"), hash(pair("b", "1"), pair("c", "x"), pair("d", "2")), told(1)},
		{two, field(api.HSet, "e", ""), hash(pair("b", "1"), pair("d", "2"), pair("e", "")), told(1)},
		{two, field(api.HSet, "d", "x"), hash(pair("b", "1"), pair("d", "x")), told(0)},
		{two, field(api.HSet, "d", "2"), two, told(0)},
		{hashOf(api.MaxItems - 1), field(api.HSet, "t19", "x"), full, told(1)},
		{full, field(api.HSet, "t07", "new"), changed, told(0)},
		{full, field(api.HSet, "z", "x"), full, code(api.ErrFull)},
		{full, field(api.HSet, "a", "x"), full, code(api.ErrFull)},
		{two, field(api.HGet, "b", ""), two, said("1")},
		{two, field(api.HGet, "d", ""), two, said("2")},
		{two, field(api.HGet, "c", ""), two, code(api.ErrNone)},
		{two, field(api.HGet, "z", ""), two, code(api.ErrNone)},
		{two, field(api.HDel, "b", ""), hash(pair("d", "2")), told(1)},
		{two, field(api.HDel, "d", ""), hash(pair("b", "1")), told(1)},
		{two, field(api.HDel, "c", ""), two, told(0)},
	})
}

// P1.6: both ends of a list.
func TestList(t *testing.T) {
	full := texts(api.MaxItems)
	done(t, []deed{
		{list("a", "b"), with(api.Push, "a"), list("a", "b", "a"), told(3)},
		{list("a", "b"), with(api.Front, "b"), list("b", "a", "b"), told(3)},
		{list(full[:19]...), with(api.Push, "t19"), list(full...), told(api.MaxItems)},
		{list(full[1:]...), with(api.Front, "t00"), list(full...), told(api.MaxItems)},
		{list(full...), with(api.Push, "x"), list(full...), code(api.ErrFull)},
		{list(full...), with(api.Front, "x"), list(full...), code(api.ErrFull)},
		{list("a", "b", "c"), plain(api.Pop), list("a", "b"), said("c")},
		{list("a", "b", "c"), plain(api.Shift), list("b", "c"), said("a")},
		{list(full...), plain(api.Pop), list(full[:19]...), said("t19")},
		{list(full...), plain(api.Shift), list(full[1:]...), said("t00")},
	})
}

// P1.7: the texts of a set.
func TestSet(t *testing.T) {
	full := texts(api.MaxItems)
	done(t, []deed{
		{set("b", "d"), with(api.SAdd, "c"), set("b", "c", "d"), told(1)},
		{set("b", "d"), with(api.SAdd, ""), set("", "b", "d"), told(1)},
		{set("b", "d"), with(api.SAdd, "\xff"), set("b", "d", "\xff"), told(1)},
		{set("b", "d"), with(api.SAdd, "d"), set("b", "d"), told(0)},
		{set(full[:19]...), with(api.SAdd, "t19"), set(full...), told(1)},
		{set(full...), with(api.SAdd, "t19"), set(full...), told(0)},
		{set(full...), with(api.SAdd, "x"), set(full...), code(api.ErrFull)},
		{set("b", "d"), with(api.SRem, "b"), set("d"), told(1)},
		{set("b", "d"), with(api.SRem, "c"), set("b", "d"), told(0)},
		{set("b", "d"), with(api.SHas, "d"), set("b", "d"), told(1)},
		{set("b", "d"), with(api.SHas, "c"), set("b", "d"), told(0)},
		{set("b", "d"), with(api.SHas, ""), set("b", "d"), told(0)},
	})
}

// P1.8: the members of a rank.
func TestRank(t *testing.T) {
	three := rank(score("b", -1), score("a", 2), score("c", 2))
	full := rankOf(api.MaxItems)
	moved := own(full)
	moved.Scores = append(moved.Scores[1:], score("t00", 50))
	done(t, []deed{
		{three, zadd("d", 0), rank(score("b", -1), score("d", 0), score("a", 2), score("c", 2)), told(1)},
		{three, zadd("b2", 2), rank(score("b", -1), score("a", 2), score("b2", 2), score("c", 2)), told(1)},
		{three, zadd("z", -most), rank(score("z", -most), score("b", -1), score("a", 2), score("c", 2)), told(1)},
		{three, zadd("", most), rank(score("b", -1), score("a", 2), score("c", 2), score("", most)), told(1)},
		{three, zadd("b", 2), rank(score("a", 2), score("b", 2), score("c", 2)), told(0)},
		{three, zadd("c", -1), rank(score("b", -1), score("c", -1), score("a", 2)), told(0)},
		{three, zadd("a", 2), three, told(0)},
		{three, zadd("a", 3), rank(score("b", -1), score("c", 2), score("a", 3)), told(0)},
		{rankOf(api.MaxItems - 1), zadd("t19", 19), full, told(1)},
		{full, zadd("t00", 50), moved, told(0)},
		{full, zadd("x", 0), full, code(api.ErrFull)},
		{three, with(api.ZRem, "a"), rank(score("b", -1), score("c", 2)), told(1)},
		{three, with(api.ZRem, "x"), three, told(0)},
		{three, with(api.ZRank, "b"), three, told(0)},
		{three, with(api.ZRank, "a"), three, told(1)},
		{three, with(api.ZRank, "c"), three, told(2)},
		{three, with(api.ZRank, "x"), three, code(api.ErrNone)},
	})
}
