package value_test

import (
	"fmt"
	"slices"
	"testing"

	"rostrum/api"
	"rostrum/value"
)

// roomy: a value with the same elements, and spare room that is marked behind each list.
func roomy(v api.Value) api.Value {
	v.Pairs = append(append(make([]api.Pair, 0, 40), v.Pairs...), pair("spare", "spare"))[:len(v.Pairs)]
	v.Items = append(append(make([]string, 0, 40), v.Items...), "spare")[:len(v.Items)]
	v.Scores = append(append(make([]api.Score, 0, 40), v.Scores...), score("spare", 9))[:len(v.Scores)]
	return v
}

// whole: all that lies in a value's lists, spare room too.
func whole(v api.Value) string {
	return fmt.Sprintf("%q %q %v", v.Pairs[:cap(v.Pairs)], v.Items[:cap(v.Items)], v.Scores[:cap(v.Scores)])
}

// scratch all that lies in the lists of an answer, spare room too.
func scratch(v api.Value, r api.Reply) {
	for i := range v.Pairs[:cap(v.Pairs)] {
		v.Pairs[:cap(v.Pairs)][i] = pair("!", "!")
	}
	for i := range v.Scores[:cap(v.Scores)] {
		v.Scores[:cap(v.Scores)][i] = score("!", -7)
	}
	for _, l := range [][]string{v.Items, r.List} {
		for i := range l[:cap(l)] {
			l[:cap(l)][i] = "!"
		}
	}
}

// Lists that are handed in are not changed, and not shared with what is answered.
func TestListsAreNotShared(t *testing.T) {
	values := []api.Value{none, text("x"), count(7), hashOf(1), hashOf(3), hashOf(api.MaxItems),
		list("x"), list("a", "x", "z"), list(texts(api.MaxItems)...),
		set("x"), set("a", "x", "z"), set(texts(api.MaxItems)...),
		rank(score("x", 0)), rankOf(3), rankOf(api.MaxItems)}
	more := append(ordinary(), field(api.HSet, "t00", "y"), field(api.HDel, "t00", ""), field(api.HGet, "t00", ""),
		with(api.SRem, "t00"), zadd("t00", 60), with(api.ZRem, "t00"), with(api.ZRank, "t00"),
		plain(api.Del), api.Command{Kind: 99}, api.Command{Kind: api.Put})
	for _, v := range values {
		for _, c := range more {
			in := roomy(v)
			before := whole(in)
			w, r, _ := value.Do(in, c)
			if whole(in) != before {
				t.Errorf("%+v changes what is handed in: %s, it was %s", c, whole(in), before)
			}
			scratch(w, r)
			if whole(in) != before {
				t.Errorf("%+v shares lists with its answer: %+v", c, v)
			}
		}
		in := roomy(v)
		before := whole(in)
		if value.Check(in); whole(in) != before {
			t.Errorf("Check changes %+v", v)
		}
	}
}

// Checking what is out of order leaves it so.
func TestCheckDoesNotSort(t *testing.T) {
	for _, v := range []api.Value{hash(pair("b", ""), pair("a", "")), set("b", "a"), rank(score("b", 1), score("a", 2))} {
		in := roomy(v)
		before := whole(in)
		if value.Check(in); whole(in) != before {
			t.Errorf("Check changes %+v", v)
		}
	}
}

// The list of a reply and those of the value in the same answer lie apart.
func TestListsOfAnAnswerLieApart(t *testing.T) {
	for _, v := range []api.Value{list("a", "b"), set("a", "b")} {
		w, r, _ := value.Do(v, plain(api.All))
		for i := range r.List[:cap(r.List)] {
			r.List[:cap(r.List)][i] = "!"
		}
		if !sameValue(v, w) {
			t.Errorf("the reply's list is the value's: %+v", w)
		}
	}
}

// model: what a value with elements should be, kept in a way of its own: they lie unordered until they are told.
type model struct {
	kind   int
	items  []string
	texts  map[string]string
	scores map[string]int
}

func (m *model) value() api.Value {
	v := api.Value{Kind: m.kind, Items: append([]string(nil), m.items...)}
	for f, s := range m.texts {
		v.Pairs = append(v.Pairs, pair(f, s))
	}
	slices.SortFunc(v.Pairs, func(a, b api.Pair) int {
		if a.Field < b.Field {
			return -1
		}
		return 1
	})
	for s, n := range m.scores {
		v.Scores = append(v.Scores, score(s, n))
	}
	slices.SortFunc(v.Scores, func(a, b api.Score) int {
		if a.N < b.N || a.N == b.N && a.Member < b.Member {
			return -1
		}
		return 1
	})
	if m.kind == api.Set {
		slices.Sort(v.Items)
	}
	return v
}

func (m *model) hash(c api.Command) (api.Reply, api.Errno) {
	old, there := m.texts[c.Field]
	switch {
	case c.Kind == api.HGet && !there:
		return api.Reply{}, api.ErrNone
	case c.Kind == api.HGet:
		return said(old), api.OK
	case c.Kind == api.HDel:
		delete(m.texts, c.Field)
		return told(bit(there)), api.OK
	case !there && len(m.texts) == api.MaxItems:
		return api.Reply{}, api.ErrFull
	}
	m.texts[c.Field] = c.Text
	return told(bit(!there)), api.OK
}

func (m *model) list(c api.Command) (api.Reply, api.Errno) {
	n := len(m.items)
	switch c.Kind {
	case api.Pop:
		s := m.items[n-1]
		m.items = m.items[:n-1]
		return said(s), api.OK
	case api.Shift:
		s := m.items[0]
		m.items = m.items[1:]
		return said(s), api.OK
	}
	if n == api.MaxItems {
		return api.Reply{}, api.ErrFull
	}
	if c.Kind == api.Push {
		m.items = append(m.items, c.Text)
	} else {
		m.items = append([]string{c.Text}, m.items...)
	}
	return told(n + 1), api.OK
}

func (m *model) set(c api.Command) (api.Reply, api.Errno) {
	at := slices.Index(m.items, c.Text)
	switch {
	case c.Kind == api.SHas:
		return told(bit(at >= 0)), api.OK
	case c.Kind == api.SRem:
		if at >= 0 {
			m.items = slices.Delete(m.items, at, at+1)
		}
		return told(bit(at >= 0)), api.OK
	case at < 0 && len(m.items) == api.MaxItems:
		return api.Reply{}, api.ErrFull
	case at < 0:
		m.items = append(m.items, c.Text)
	}
	return told(bit(at < 0)), api.OK
}

func (m *model) rank(c api.Command) (api.Reply, api.Errno) {
	_, there := m.scores[c.Text]
	switch {
	case c.Kind == api.ZRem:
		delete(m.scores, c.Text)
		return told(bit(there)), api.OK
	case c.Kind == api.ZRank && !there:
		return api.Reply{}, api.ErrNone
	case c.Kind == api.ZRank:
		for i, s := range m.value().Scores {
			if s.Member == c.Text {
				return told(i), api.OK
			}
		}
	case !there && len(m.scores) == api.MaxItems:
		return api.Reply{}, api.ErrFull
	}
	m.scores[c.Text] = c.N
	return told(bit(!there)), api.OK
}

func bit(b bool) int {
	if b {
		return 1
	}
	return 0
}

// die: numbers that look drawn, the same each time.
type die uint64

func (d *die) n(most int) int {
	*d = *d*6364136223846793005 + 1442695040888963407
	return int(uint64(*d>>33) % uint64(most))
}

// Whatever is done, a value may be, and is what the model says.
func TestDrawn(t *testing.T) {
	for kind, commands := range map[int][]int{
		api.Hash: {api.HSet, api.HSet, api.HGet, api.HDel},
		api.List: {api.Push, api.Front, api.Pop, api.Shift},
		api.Set:  {api.SAdd, api.SAdd, api.SRem, api.SHas},
		api.Rank: {api.ZAdd, api.ZAdd, api.ZRem, api.ZRank},
	} {
		for _, span := range []int{4, 30} { // few names: values empty out; many: they fill up
			drawn(t, kind, commands, span)
		}
	}
}

func drawn(t *testing.T, kind int, commands []int, span int) {
	d := die(kind*100 + span)
	m := &model{kind: kind, texts: map[string]string{}, scores: map[string]int{}}
	var v api.Value
	for step := range 3000 {
		c := api.Command{Kind: commands[d.n(len(commands))], Key: "k"}
		if (step/500)%2 == 1 && span > 4 { // for a while values only fill up
			c.Kind = commands[0]
		}
		name := fmt.Sprint("n", d.n(span))
		switch kind {
		case api.Hash:
			c.Field = name
			if c.Kind == api.HSet {
				c.Text = fmt.Sprint(d.n(9))
			}
		case api.List:
			if c.Kind == api.Push || c.Kind == api.Front {
				c.Text = name
			}
		default:
			c.Text = name
			if c.Kind == api.ZAdd {
				c.N = d.n(7) - 3
			}
		}
		w, r, e := value.Do(v, c)
		want, wantReply := expected(m, v, c)
		if e != api.OK || !sameValue(w, want) || !sameReply(r, wantReply) {
			t.Fatalf("step %d: %+v with %+v:\ngot  %+v %+v %d\nwant %+v %+v", step, c, v, w, r, int(e), want, wantReply)
		}
		if w.Kind != 0 && value.Check(w) != api.OK {
			t.Fatalf("step %d: %+v may not be", step, w)
		}
		v = w
	}
}

// expected value and reply, by the model.
func expected(m *model, v api.Value, c api.Command) (api.Value, api.Reply) {
	if v.Kind == 0 && c.Kind != api.HSet && c.Kind != api.Push && c.Kind != api.Front && c.Kind != api.SAdd && c.Kind != api.ZAdd {
		return none, code(api.ErrNone)
	}
	var r api.Reply
	var e api.Errno
	switch m.kind {
	case api.Hash:
		r, e = m.hash(c)
	case api.List:
		r, e = m.list(c)
	case api.Set:
		r, e = m.set(c)
	default:
		r, e = m.rank(c)
	}
	r.Code = e
	if len(m.items)+len(m.texts)+len(m.scores) == 0 {
		return none, r
	}
	return m.value(), r
}
