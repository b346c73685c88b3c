package value_test

import (
	"fmt"
	"reflect"
	"strings"
	"testing"

	"rostrum/api"
	"rostrum/value"
)

const most = api.MaxCount

// long: a text of n bytes.
func long(n int) string { return strings.Repeat("q", n) }

// texts: n of them, rising.
func texts(n int) []string {
	var l []string
	for i := range n {
		l = append(l, fmt.Sprintf("t%02d", i))
	}
	return l
}

func text(s string) api.Value         { return api.Value{Kind: api.Text, Text: s} }
func count(n int) api.Value           { return api.Value{Kind: api.Count, Count: n} }
func hash(l ...api.Pair) api.Value    { return api.Value{Kind: api.Hash, Pairs: l} }
func list(l ...string) api.Value      { return api.Value{Kind: api.List, Items: l} }
func set(l ...string) api.Value       { return api.Value{Kind: api.Set, Items: l} }
func rank(l ...api.Score) api.Value   { return api.Value{Kind: api.Rank, Scores: l} }
func pair(f, t string) api.Pair       { return api.Pair{Field: f, Text: t} }
func score(m string, n int) api.Score { return api.Score{Member: m, N: n} }
func told(n int) api.Reply            { return api.Reply{N: n} }
func said(s string) api.Reply         { return api.Reply{Text: s} }
func code(e api.Errno) api.Reply      { return api.Reply{Code: e} }
func listed(l ...string) api.Reply    { return api.Reply{List: l} }
func plain(kind int) api.Command      { return api.Command{Kind: kind, Key: "k"} }
func with(kind int, s string) api.Command {
	return api.Command{Kind: kind, Key: "k", Text: s}
}
func field(kind int, f, s string) api.Command {
	return api.Command{Kind: kind, Key: "k", Field: f, Text: s}
}
func zadd(m string, n int) api.Command {
	return api.Command{Kind: api.ZAdd, Key: "k", Text: m, N: n}
}
func plus(n int) api.Command { return api.Command{Kind: api.Add, Key: "k", N: n} }

// hashOf n fields.
func hashOf(n int) api.Value {
	v := api.Value{Kind: api.Hash}
	for _, s := range texts(n) {
		v.Pairs = append(v.Pairs, pair(s, "x"))
	}
	return v
}

// rankOf n members, their numbers rising with them.
func rankOf(n int) api.Value {
	v := api.Value{Kind: api.Rank}
	for i, s := range texts(n) {
		v.Scores = append(v.Scores, score(s, i))
	}
	return v
}

// own: a value whose lists are all of its own, and nil where they are empty.
func own(v api.Value) api.Value {
	v.Pairs = append([]api.Pair(nil), v.Pairs...)
	v.Items = append([]string(nil), v.Items...)
	v.Scores = append([]api.Score(nil), v.Scores...)
	return v
}

func sameValue(a, b api.Value) bool { return reflect.DeepEqual(own(a), own(b)) }

func sameReply(a, b api.Reply) bool {
	a.List = append([]string(nil), a.List...)
	b.List = append([]string(nil), b.List...)
	return reflect.DeepEqual(a, b)
}

// deed: a value, a command, and what should come of them.
type deed struct {
	v    api.Value
	c    api.Command
	want api.Value
	r    api.Reply
}

// done: deeds that no error refuses.
func done(t *testing.T, l []deed) {
	t.Helper()
	for i, d := range l {
		w, r, e := value.Do(d.v, d.c)
		if e != api.OK || !sameValue(w, d.want) || !sameReply(r, d.r) {
			t.Errorf("deed %d: %+v with %+v:\ngot  %+v %+v %d\nwant %+v %+v 0", i, d.c, d.v, w, r, int(e), d.want, d.r)
		}
	}
}
