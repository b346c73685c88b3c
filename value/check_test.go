package value_test

import (
	"math"
	"testing"

	"rostrum/api"
	"rostrum/value"
)

type valueCase struct {
	v    api.Value
	want api.Errno
}

func checked(t *testing.T, l []valueCase) {
	t.Helper()
	for i, c := range l {
		if e := value.Check(c.v); e != c.want {
			t.Errorf("case %d: %+v: %d, want %d", i, c.v, int(e), int(c.want))
		}
	}
}

// P1.1: the lengths and counts at their bounds, and beyond them.
func TestBoundsOfValues(t *testing.T) {
	fit, tooLong := long(api.MaxText), long(api.MaxText+1)
	checked(t, []valueCase{
		{text(""), api.OK},
		{text(fit), api.OK},
		{text(tooLong), api.ErrSize},
		{text("\x00\xff\n"), api.OK},
		{count(0), api.OK},
		{count(most), api.OK},
		{count(-most), api.OK},
		{count(most + 1), api.ErrRange},
		{count(-most - 1), api.ErrRange},
		{count(math.MaxInt), api.ErrRange},
		{count(math.MinInt), api.ErrRange},
		{hash(pair("f", "")), api.OK},
		{hash(pair(long(api.MaxKey), fit)), api.OK},
		{hash(pair("", "x")), api.ErrSize},
		{hash(pair(long(api.MaxKey+1), "x")), api.ErrSize},
		{hash(pair("f", tooLong)), api.ErrSize},
		{hash(pair("f", "x"), pair("g", tooLong)), api.ErrSize},
		{list("", fit), api.OK},
		{list("a", tooLong), api.ErrSize},
		{set("", fit), api.OK},
		{set("a", tooLong), api.ErrSize},
		{rank(score("", most)), api.OK},
		{rank(score(fit, -most)), api.OK},
		{rank(score(tooLong, 0)), api.ErrSize},
		{rank(score("a", 0), score("b", most+1)), api.ErrRange},
		{rank(score("a", -most-1), score("b", 0)), api.ErrRange},
		{rank(score("a", math.MinInt)), api.ErrRange},
	})
}

// P1.2: kinds that there are not.
func TestKindsOfValues(t *testing.T) {
	for _, kind := range []int{0, -1, api.Rank + 1, math.MaxInt, math.MinInt} {
		checked(t, []valueCase{
			{api.Value{Kind: kind}, api.ErrKind},
			{api.Value{Kind: kind, Text: long(api.MaxText + 1), Count: most + 1}, api.ErrKind},
			{api.Value{Kind: kind, Items: []string{"b", "a"}}, api.ErrKind},
		})
	}
}

// P1.2: what a kind has not is refused, and empty lists are nothing.
func TestFormOfValues(t *testing.T) {
	good := []api.Value{text("x"), count(1), hash(pair("f", "x")), list("a"), set("a"), rank(score("a", 1))}
	for _, v := range good {
		checked(t, []valueCase{{v, api.OK}})
		for part := range 5 {
			w, own := own(v), false
			switch part {
			case 0:
				w.Text, own = long(api.MaxText+1), v.Kind == api.Text
			case 1:
				w.Count, own = most+1, v.Kind == api.Count
			case 2:
				w.Pairs, own = []api.Pair{{}}, v.Kind == api.Hash
			case 3:
				w.Items, own = []string{""}, v.Kind == api.List || v.Kind == api.Set
			case 4:
				w.Scores, own = []api.Score{{}}, v.Kind == api.Rank
			}
			if !own {
				checked(t, []valueCase{{w, api.ErrForm}})
			}
		}
	}
	bare := api.Value{Kind: api.Text, Pairs: []api.Pair{}, Items: make([]string, 0, 3), Scores: []api.Score{}}
	checked(t, []valueCase{{bare, api.OK}})
	bare.Kind = api.Count
	checked(t, []valueCase{{bare, api.OK}})
}

// P1.2: how many elements there may be.
func TestSizeOfValues(t *testing.T) {
	n := api.MaxItems
	checked(t, []valueCase{
		{hash(), api.ErrSize}, {list(), api.ErrSize}, {set(), api.ErrSize}, {rank(), api.ErrSize},
		{api.Value{Kind: api.List, Items: []string{}}, api.ErrSize},
		{hashOf(1), api.OK}, {list("a"), api.OK}, {set("a"), api.OK}, {rankOf(1), api.OK},
		{hashOf(n), api.OK}, {list(texts(n)...), api.OK}, {set(texts(n)...), api.OK}, {rankOf(n), api.OK},
		{hashOf(n + 1), api.ErrSize}, {list(texts(n + 1)...), api.ErrSize},
		{set(texts(n + 1)...), api.ErrSize}, {rankOf(n + 1), api.ErrSize},
	})
}

// P1.2: elements rise, and none stands there twice.
func TestOrderOfValues(t *testing.T) {
	checked(t, []valueCase{
		{hash(pair("a", "z"), pair("b", "y")), api.OK},
		{hash(pair("b", "y"), pair("a", "z")), api.ErrOrder},
		{hash(pair("a", "y"), pair("a", "z")), api.ErrOrder},
		{hash(pair("a", ""), pair("c", ""), pair("b", "")), api.ErrOrder},
		{hash(pair("B", ""), pair("a", ""), pair("aa", "")), api.OK},
		{list("b", "a", "a"), api.OK},
		{set("", "a", "b"), api.OK},
		{set("b", "a"), api.ErrOrder},
		{set("a", "a"), api.ErrOrder},
		{set("a", "b", "b"), api.ErrOrder},
		{set("a", "\x7f", "\x80", "\xff"), api.OK},
		{set("\xff", "a"), api.ErrOrder},
		{set("ab", "a"), api.ErrOrder},
		{rank(score("b", -1), score("a", 0)), api.OK},
		{rank(score("a", 1), score("b", 0)), api.ErrOrder},
		{rank(score("a", 1), score("b", 1)), api.OK},
		{rank(score("b", 1), score("a", 1)), api.ErrOrder},
		{rank(score("a", 1), score("a", 1)), api.ErrOrder},
		{rank(score("a", 1), score("a", 2)), api.ErrOrder},
		{rank(score("a", 1), score("b", 2), score("a", 3)), api.ErrOrder},
	})
}

// P1.2: of several errors the one named first.
func TestFirstErrorOfValues(t *testing.T) {
	tooLong := long(api.MaxText + 1)
	both := rank(score(tooLong, most+1), score("a", 0))
	withText := rank(score(tooLong, most+1))
	withText.Text = "x"
	checked(t, []valueCase{
		{withText, api.ErrForm},
		{both, api.ErrSize},
		{api.Value{Kind: api.List, Count: most + 1}, api.ErrForm},
		{hash(pair("b", ""), pair("a", tooLong)), api.ErrSize},
		{hash(pair("b", ""), pair("", "")), api.ErrSize},
		{set("b", tooLong, "a"), api.ErrSize},
		{rank(score("b", 0), score("a", most+1), score("c", 0)), api.ErrRange},
		{rank(score("a", -most-1), score("a", 0)), api.ErrRange},
	})
}

type commandCase struct {
	c    api.Command
	want api.Errno
}

func checkedCommands(t *testing.T, l []commandCase) {
	t.Helper()
	for i, c := range l {
		if e := value.CheckCommand(c.c); e != c.want {
			t.Errorf("case %d: %+v: %d, want %d", i, c.c, int(e), int(c.want))
		}
	}
}

// partsOf the commands, by their kinds: k a key, f a field, t a text, n a number.
var partsOf = map[int]string{
	api.Put: "kt", api.Get: "k", api.Add: "kn", api.HSet: "kft", api.HGet: "kf", api.HDel: "kf",
	api.Push: "kt", api.Front: "kt", api.Pop: "k", api.Shift: "k", api.SAdd: "kt", api.SRem: "kt", api.SHas: "kt",
	api.ZAdd: "ktn", api.ZRem: "kt", api.ZRank: "kt", api.Len: "k", api.All: "k", api.Del: "k",
	api.Expire: "kn", api.Life: "k", api.Keys: "",
}

// give a command the parts that are named.
func give(c api.Command, parts, name, text string, n int) api.Command {
	for _, p := range parts {
		switch p {
		case 'k':
			c.Key = name
		case 'f':
			c.Field = name
		case 't':
			c.Text = text
		case 'n':
			c.N = n
		}
	}
	return c
}

// P1.3: kinds that there are not.
func TestKindsOfCommands(t *testing.T) {
	for _, kind := range []int{0, -1, api.Keys + 1, math.MaxInt, math.MinInt} {
		checkedCommands(t, []commandCase{
			{api.Command{Kind: kind}, api.ErrKind},
			{api.Command{Kind: kind, Key: "k"}, api.ErrKind},
			{api.Command{Kind: kind, Key: long(99), Field: "f", Text: long(99), N: most + 1}, api.ErrKind},
		})
	}
}

// P1.1, P1.3: each kind with what it has at the bounds, and beyond them.
func TestBoundsOfCommands(t *testing.T) {
	if len(partsOf) != api.Keys {
		t.Fatalf("%d kinds of commands", len(partsOf))
	}
	for kind, parts := range partsOf {
		bare := api.Command{Kind: kind}
		good := give(bare, parts, "n", "t", 1)
		checkedCommands(t, []commandCase{
			{good, api.OK},
			{give(bare, parts, long(api.MaxKey), long(api.MaxText), most), api.OK},
			{give(bare, parts, "n", "", -most), api.OK},
			{give(bare, parts, "n", "", 0), api.OK},
		})
		for _, p := range parts {
			one := string(p)
			var l []commandCase
			switch p {
			case 'k', 'f':
				l = append(l,
					commandCase{give(good, one, "", "", 0), api.ErrSize},
					commandCase{give(good, one, long(api.MaxKey+1), "", 0), api.ErrSize})
			case 't':
				l = append(l, commandCase{give(good, one, "", long(api.MaxText+1), 0), api.ErrSize})
			case 'n':
				for _, n := range []int{most + 1, -most - 1, math.MaxInt, math.MinInt} {
					l = append(l, commandCase{give(good, one, "", "", n), api.ErrRange})
				}
			}
			checkedCommands(t, l)
		}
	}
}

// P1.3: each kind with each part that it has not.
func TestFormOfCommands(t *testing.T) {
	for kind, parts := range partsOf {
		good := give(api.Command{Kind: kind}, parts, "n", "t", 1)
		for _, p := range "kftn" {
			has := false
			for _, q := range parts {
				has = has || p == q
			}
			if !has {
				checkedCommands(t, []commandCase{
					{give(good, string(p), "x", "x", 1), api.ErrForm},
					{give(good, string(p), long(99), long(99), math.MinInt), api.ErrForm},
				})
			}
		}
	}
}

// P1.3: of several errors the one named first.
func TestFirstErrorOfCommands(t *testing.T) {
	checkedCommands(t, []commandCase{
		{api.Command{Kind: api.Get, Text: "x"}, api.ErrForm},
		{api.Command{Kind: api.Put, Key: long(99), N: most + 1}, api.ErrForm},
		{api.Command{Kind: api.Add, N: most + 1}, api.ErrSize},
		{api.Command{Kind: api.ZAdd, Key: "k", Text: long(api.MaxText + 1), N: most + 1}, api.ErrSize},
		{api.Command{Kind: api.Expire, Key: long(api.MaxKey + 1), N: -most - 1}, api.ErrSize},
	})
}
