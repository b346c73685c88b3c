package lines_test

import (
	"encoding/hex"
	"regexp"
	"slices"
	"strconv"
	"strings"
	"testing"

	"rostrum/api"
	"rostrum/lines"
)

const (
	actWords     = "ask stand work sync tick take lose copy crash start trim flow"
	commandWords = "put get add hset hget hdel push front pop shift sadd srem shas zadd zrem zrank len all del expire life keys"
)

// inForm: the lines that Show may write, but for the bounds of numbers and texts.
var inForm = regexp.MustCompile(strings.NewReplacer("#", `(0|-?[1-9][0-9]*)`, "@", `(-?[1-9][0-9]*)`, "~", `\.([0-9a-f][0-9a-f])*`, "$", `(`+strings.ReplaceAll(commandWords, " ", "|")+`)`).Replace(
	`\A(flow|(stand|work|sync|start|trim|take|lose|copy) #|(tick|crash) # #|ask # open|ask # @ # $ ~ ~ ~ #)\z`))

// place of a word in a list of words, from 1 on.
func place(words, word string) int { return slices.Index(strings.Fields(words), word) + 1 }

// numbers of these words; not all of them may be any.
func numbers(words []string) ([]int, bool) {
	var l []int
	for _, w := range words {
		n, err := strconv.ParseInt(w, 10, 64)
		if err != nil {
			return nil, false
		}
		l = append(l, int(n))
	}
	return l, true
}

func textOf(word string) string {
	b, _ := hex.DecodeString(word[1:])
	return string(b)
}

// modelLine: the act of a line, and whether the line is in form.
func modelLine(line string) (api.Act, bool) {
	if !inForm.MatchString(line) {
		return api.Act{}, false
	}
	w := strings.Split(line, " ")
	a := api.Act{Kind: place(actWords, w[0])}
	if len(w) == 9 {
		n, ok := numbers([]string{w[1], w[2], w[3], w[8]})
		if !ok {
			return a, false
		}
		return ask(n[0], call(n[1], n[2], command(place(commandWords, w[4]), textOf(w[5]), textOf(w[6]), textOf(w[7]), n[3]))), true
	}
	n, ok := numbers(slices.DeleteFunc(w[1:], func(s string) bool { return s == "open" }))
	switch {
	case !ok:
		return a, false
	case len(n) == 2:
		a.Node, a.Pick = n[0], n[1]
	case len(n) == 1 && (a.Kind == api.Take || a.Kind == api.Lose || a.Kind == api.Copy):
		a.Pick = n[0]
	case len(n) == 1:
		a.Node = n[0]
	}
	return a, true
}

// modelRead: what Read should answer.
func modelRead(s string) ([]api.Act, int, api.Errno) {
	var l []api.Act
	for i, line := range strings.SplitAfter(s, "\n") {
		if line == "" {
			break
		}
		a, ok := modelLine(strings.TrimSuffix(line, "\n"))
		e := lines.Check(a)
		switch {
		case i == api.MaxActs:
			return nil, i, api.ErrSize
		case !strings.HasSuffix(line, "\n") || !ok:
			return nil, i, api.ErrForm
		case e != api.OK:
			return nil, i, e
		}
		l = append(l, a)
	}
	return l, 0, api.OK
}

// asModel: Read should answer as the model does, and what it reads should be shown so.
func asModel(t *testing.T, s string) {
	t.Helper()
	l, i, e := lines.Read(s)
	m, k, f := modelRead(s)
	if !slices.Equal(l, m) || i != k || e != f {
		t.Fatalf("%q: %+v %d %d, want %+v %d %d", s, l, i, int(e), m, k, int(f))
	}
	if back, _, g := lines.Show(l); e == api.OK && (back != s || g != api.OK) {
		t.Fatalf("%q is shown as %q %d", s, back, int(g))
	}
}

// What is shown is read as it was.
func TestShownIsRead(t *testing.T) {
	l := someActs()
	for i := range l {
		s, _, e := lines.Show(l[i:])
		if e != api.OK {
			t.Fatalf("%d: %d", i, int(e))
		}
		read(t, s, l[i:])
	}
}

func (d *die) text(most int) string {
	b := make([]byte, d.n(most+1))
	for i := range b {
		b[i] = byte(d.n(256))
	}
	return string(b)
}

func (d *die) command() api.Command {
	c := api.Command{Kind: 1 + d.n(22), Key: "k" + d.text(api.MaxKey-1)}
	switch c.Kind {
	case api.Put, api.Push, api.Front, api.SAdd, api.SRem, api.SHas, api.ZRem, api.ZRank:
		c.Text = d.text(api.MaxText)
	case api.Add, api.Expire:
		c.N = d.n(99) - 49
	case api.HSet:
		c.Field, c.Text = "f"+d.text(api.MaxKey-1), d.text(api.MaxText)
	case api.HGet, api.HDel:
		c.Field = "f" + d.text(api.MaxKey-1)
	case api.ZAdd:
		c.Text, c.N = d.text(api.MaxText), d.n(2*api.MaxCount+1)-api.MaxCount
	case api.Keys:
		c.Key = ""
	}
	return c
}

func (d *die) act() api.Act {
	a := api.Act{Kind: 1 + d.n(12)}
	switch a.Kind {
	case api.Take, api.Lose, api.Copy, api.Flow:
	default:
		a.Node = d.n(api.Nodes)
	}
	switch a.Kind {
	case api.Tick, api.Crash, api.Take, api.Lose, api.Copy:
		a.Pick = d.n(api.MaxTape + 1)
	case api.Ask:
		if d.n(4) > 0 {
			a.Call = call(1+d.n(top), 1+d.n(top), d.command())
		}
	}
	return a
}

// Drawn acts are read as they were shown; no two lists of acts have the same lines.
func TestDrawnActs(t *testing.T) {
	d := die(3)
	seen := map[string][]api.Act{}
	for range 5000 {
		var l []api.Act
		for range d.n(4) {
			l = append(l, d.act())
		}
		s, i, e := lines.Show(l)
		if i != 0 || e != api.OK {
			t.Fatalf("%+v: %d at %d", l, int(e), i)
		}
		asModel(t, s)
		read(t, s, l)
		if old, ok := seen[s]; ok && !slices.Equal(old, l) {
			t.Fatalf("%+v and %+v are shown as %q", old, l, s)
		}
		seen[s] = l
	}
}

// Lines in which one byte was altered, is missing or is new are refused as they should be, or are those of other acts.
func TestAlteredLines(t *testing.T) {
	for _, p := range somePairs() {
		s := p.line + "\n"
		for i := range len(s) {
			asModel(t, s[:i]+s[i+1:])
			for b := range 256 {
				one := string([]byte{byte(b)})
				asModel(t, s[:i]+one+s[i+1:])
				asModel(t, s[:i]+one+s[i:])
			}
		}
	}
}

// Words that are drawn, one behind the other.
func TestDrawnWords(t *testing.T) {
	all := strings.Fields(actWords + " " + commandWords + " open 0 1 2 3 -1 -0 00 1 0 1 2 400000 400001 1048576 1048577 9223372036854775807 9223372036854775808 . . . .6b .6b .6B .6 6b")
	d := die(5)
	for range 100000 {
		s := ""
		for range 1 + d.n(3) {
			l := []string{"flow", "work 2", "tick 1 9", "ask 0 open", "ask 1 2 3 keys . . . 0", "ask 1 2 3 zadd .6b . .74 -5"}
			w := strings.Split(l[d.n(len(l))], " ")
			for range d.n(3) {
				w[d.n(len(w))] = all[d.n(len(all))]
			}
			s += strings.Join(w, " ") + "\n"
		}
		asModel(t, s)
	}
}

// Acts that are handed in are not changed, the room behind them neither.
func TestActsAreNotChanged(t *testing.T) {
	for _, wrong := range append(wrongActs(), refused{act(api.Flow, 0, 0), api.OK}) {
		room := append(someActs(), wrong.a, ask(7, call(7, 7, keys)), act(99, 9, 9))
		before := slices.Clone(room)
		in := room[:len(room)-2]
		a, _, _ := lines.Show(in)
		b, _, _ := lines.Show(in)
		lines.Check(in[0])
		if !slices.Equal(room, before) || a != b {
			t.Fatalf("%+v with %+v is changed, or shown as %q and %q", in, wrong.a, a, b)
		}
	}
}

// No two answers share a list, nor the room behind it.
func TestReadActsAreNotShared(t *testing.T) {
	s, _, _ := lines.Show(someActs())
	for n := range 20 {
		s := s[:strings.Index(s, "\n")+1] + strings.Repeat("flow\n", n)
		a, _, _ := lines.Read(s)
		b, _, _ := lines.Read(s)
		room := slices.Clone(b[:cap(b)])
		for i := range cap(a) {
			a[:cap(a)][i] = act(99, 9, 9)
		}
		if c, _, _ := lines.Read(s); !slices.Equal(b[:cap(b)], room) || !slices.Equal(b, c) {
			t.Fatalf("%d lines: %+v, and then %+v", n+1, b, c)
		}
	}
}
