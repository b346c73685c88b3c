package crew_test

import (
	"fmt"
	"slices"
	"strconv"
	"strings"
	"testing"

	"rostrum/api"
	"rostrum/crew"
	"rostrum/lines"
)

// rounds: all work, sync, and hear of everything, so many times.
func rounds(n int) []api.Act {
	l, _, _ := lines.Read(strings.Repeat("work 0\nsync 0\nwork 1\nsync 1\nwork 2\nsync 2\nflow\n", n))
	return l
}

// acts of words: lines with `;` between them, `rounds n`, and `n* ` ahead of what comes n times.
func acts(s string) []api.Act {
	var l []api.Act
	for w := range strings.SplitSeq(s, ";") {
		w = strings.TrimSpace(w)
		times := 1
		if n, rest, ok := strings.Cut(w, "* "); ok {
			times, _ = strconv.Atoi(n)
			w = rest
		}
		if n, ok := strings.CutPrefix(w, "rounds "); ok {
			k, _ := strconv.Atoi(n)
			l = append(l, rounds(k)...)
			continue
		}
		one, _, e := lines.Read(w + "\n")
		if e != api.OK {
			panic("no act: " + w)
		}
		for range times {
			l = append(l, one...)
		}
	}
	return l
}

func join(lists ...[]api.Act) []api.Act { return slices.Concat(lists...) }

func ask(node int, c api.Call) []api.Act { return []api.Act{{Kind: api.Ask, Node: node, Call: c}} }

func call(id, seq int, c api.Command) api.Call { return api.Call{Client: id, Seq: seq, Command: c} }

// put of a client: a text at the key k.
func put(id, seq int, text string) api.Call {
	return call(id, seq, api.Command{Kind: api.Put, Key: "k", Text: text})
}

// add of a client: one more to the count at the key n.
func add(id, seq int) api.Call {
	return call(id, seq, api.Command{Kind: api.Add, Key: "n", N: 1})
}

// led: node 0 leads in term 1, its Nop is done at all, and no message waits or is on its way.
var led = acts("stand 0; rounds 7; sync 1; sync 2; flow")

// withClient: beside that a client, of the number 1.
var withClient = join(led, acts("ask 0 open; rounds 3; sync 1; sync 2; flow"))

// ran: the outcome of acts that may be.
func ran(t *testing.T, l []api.Act) api.Outcome {
	t.Helper()
	o, e := crew.Run(l)
	if e != api.OK || len(o.Nodes) != api.Nodes {
		t.Fatalf("%d acts: %d nodes, %d", len(l), len(o.Nodes), int(e))
	}
	return o
}

// itemText: its Term, and `-` of a Nop, `+` of somebody who would be a client, else client, call and Text; the Time, if there is one.
func itemText(x api.Item) string {
	s := strconv.Itoa(x.Term)
	switch {
	case x.Nop:
		s += "-"
	case x.Call.Client == 0:
		s += "+"
	default:
		s += fmt.Sprintf("(%d.%d%s)", x.Call.Client, x.Call.Seq, x.Call.Command.Text)
	}
	if x.Time != 0 {
		s += "@" + strconv.Itoa(x.Time)
	}
	return s
}

// itemsText: each behind a blank; of calls without a Text that a client made one after the other the first and the last one alone.
func itemsText(l []api.Item) string {
	follows := func(x, y api.Item) bool {
		y.Call.Seq--
		return !x.Nop && x.Call.Client != 0 && x.Call.Command.Text == "" && x == y
	}
	s := ""
	for i := 0; i < len(l); i++ {
		first := l[i]
		for i+1 < len(l) && follows(l[i], l[i+1]) {
			i++
		}
		s += " " + itemText(first)
		if l[i] != first {
			s += ".." + strconv.Itoa(l[i].Call.Seq)
		}
	}
	return s
}

// viewText: `L`, if it leads, `x`, if it is down; its Term, up to where items are done, and its log.
func viewText(v api.View) string {
	s := ""
	if !v.Up {
		s += "x"
	}
	if v.Leads {
		s += "L"
	}
	s += fmt.Sprintf("%d:%d", v.Term, v.Commit)
	if v.Log.Base != 0 || v.Log.BaseTerm != 0 {
		s += fmt.Sprintf(" %d/%d", v.Log.Base, v.Log.BaseTerm)
	}
	return s + itemsText(v.Log.Items)
}

func nodesText(o api.Outcome) string {
	var l []string
	for _, v := range o.Nodes {
		l = append(l, viewText(v))
	}
	return strings.Join(l, " | ")
}

// toldText: by which node, of which call, and the reply: `!` and its Code, if that is not OK, else Text and N.
func toldText(o api.Outcome) string {
	var l []string
	for _, x := range o.Told {
		s := fmt.Sprintf("%d(%d.%d)", x.Node, x.Call.Client, x.Call.Seq)
		if x.Reply.Code != api.OK {
			s += "!" + strconv.Itoa(int(x.Reply.Code))
		} else {
			s += x.Reply.Text + "=" + strconv.Itoa(x.Reply.N)
		}
		l = append(l, s)
	}
	return strings.Join(l, " ")
}

func ledText(o api.Outcome) string {
	s := ""
	for _, x := range o.Led {
		s += fmt.Sprintf(" %d:%d", x.Term, x.Node)
	}
	return strings.TrimSpace(s)
}

// nodes are as that text says, behind acts, and so many messages are on their way.
func nodes(t *testing.T, l []api.Act, want string, away int) api.Outcome {
	t.Helper()
	o := ran(t, l)
	if s := nodesText(o); s != want || o.Away != away {
		t.Errorf("%s, %d away; want %s, %d", s, o.Away, want, away)
	}
	return o
}

func told(t *testing.T, l []api.Act, want string) {
	t.Helper()
	if s := toldText(ran(t, l)); s != want {
		t.Errorf("told %s; want %s", s, want)
	}
}

// same outcome, whether lists without elements are nil or not?
func same(a, b api.Outcome) bool { return fmt.Sprintf("%+v", a) == fmt.Sprintf("%+v", b) }

// die: numbers that look drawn, the same each time.
type die uint64

func (d *die) n(most int) int {
	*d = *d*6364136223846793005 + 1442695040888963407
	return int(uint64(*d>>33) % uint64(most))
}
