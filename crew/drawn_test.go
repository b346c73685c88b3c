package crew_test

import (
	"slices"
	"strings"
	"testing"

	"rostrum/api"
	"rostrum/crew"
)

// drawer of acts: clients that count their calls, mostly.
type drawer struct {
	die
	seqs [4]int
	long bool // texts as long as may be
}

func (d *drawer) text() string {
	if d.long {
		return strings.Repeat("q", api.MaxText-d.n(3))
	}
	return []string{"", "x", "yy", "z"}[d.n(4)]
}

func (d *drawer) command() api.Command {
	c := api.Command{Kind: 1 + d.n(22), Key: []string{"a", "b", "c", "dd"}[d.n(4)]}
	if d.long && d.n(3) > 0 {
		c = api.Command{Kind: api.HSet, Key: "key of hash" + string(rune('a'+d.n(12)))}
	}
	switch c.Kind {
	case api.Put, api.Push, api.Front, api.SAdd, api.SRem, api.SHas, api.ZRem, api.ZRank:
		c.Text = d.text()
	case api.Add, api.Expire:
		c.N = 1 + d.n(9)
	case api.HSet:
		c.Field, c.Text = "field"+string(rune('a'+d.n(20))), d.text()
	case api.HGet, api.HDel:
		c.Field = "field" + string(rune('a'+d.n(20)))
	case api.ZAdd:
		c.Text, c.N = d.text(), d.n(5)-2
	case api.Keys:
		c.Key = ""
	}
	return c
}

// call of somebody who would be a client, or of one: mostly the next one, or the last one again.
func (d *drawer) call() api.Call {
	who := d.n(9)
	if who == 0 {
		return api.Call{}
	}
	who = who % 4
	switch d.n(8) {
	case 0:
		return call(1+who, 1+d.n(9), d.command())
	case 1, 2:
	default:
		d.seqs[who]++
	}
	return call(1+who, max(1, d.seqs[who]), d.command())
}

// askAll: each node, or one, the same call.
func (d *drawer) askAll() []api.Act {
	c := d.call()
	if d.n(3) == 0 {
		return ask(d.n(3), c)
	}
	return join(ask(0, c), ask(1, c), ask(2, c))
}

func one(kind, node, pick int) []api.Act { return []api.Act{{Kind: kind, Node: node, Pick: pick}} }

// lead: a node is helped to lead, if it can.
func (d *drawer) lead() []api.Act { return join(one(api.Stand, d.n(3), 0), rounds(1+d.n(7))) }

// calm step: mostly rounds, with a fault now and then.
func (d *drawer) calm() []api.Act {
	n := d.n(3)
	switch d.n(12) {
	case 0, 1, 2:
		return d.askAll()
	case 3, 4, 5, 6:
		return rounds(1 + d.n(3))
	case 7:
		return d.lead()
	case 8:
		return join(one(api.Crash, n, d.n(300)), rounds(d.n(3)), one(api.Start, n, 0))
	case 9:
		return one(api.Trim, n, 0)
	case 10:
		return one(api.Tick, n, d.n(5))
	}
	return one([]int{api.Take, api.Lose, api.Copy}[d.n(3)], 0, d.n(50))
}

// wild step: any act at any time.
func (d *drawer) wild() []api.Act {
	n := d.n(3)
	switch d.n(24) {
	case 0, 1, 2:
		return d.askAll()
	case 3:
		return one(api.Stand, n, 0)
	case 4, 5, 6:
		return one(api.Work, n, 0)
	case 7, 8, 9, 10, 11:
		return one(api.Sync, n, 0)
	case 12:
		return one(api.Lose, 0, d.n(400))
	case 13:
		return one(api.Copy, 0, d.n(400))
	case 14:
		return one(api.Crash, n, []int{0, d.n(20), d.n(100), api.MaxTape}[d.n(4)])
	case 15:
		return one(api.Start, n, 0)
	case 16:
		return one(api.Trim, n, 0)
	case 17:
		return one(api.Tick, n, d.n(4))
	case 18:
		return acts("flow")
	case 19:
		return d.lead()
	}
	return one(api.Take, 0, d.n(400))
}

// late step: no message is in haste, and many come twice.
func (d *drawer) late() []api.Act {
	n := d.n(3)
	switch d.n(30) {
	case 0, 1:
		return d.askAll()
	case 2:
		return one(api.Stand, n, 0)
	case 3, 4:
		return join(one(api.Work, n, 0), one(api.Sync, n, 0))
	case 5, 6, 7:
		return acts("work 0; work 1; work 2; sync 0; sync 1; sync 2")
	case 8:
		return one(api.Copy, 0, d.n(400))
	case 9:
		return join(one(api.Trim, n, 0), one(api.Tick, n, 1))
	case 10:
		if d.n(4) == 0 {
			return join(one(api.Crash, n, d.n(100)), one(api.Start, n, 0))
		}
	case 11, 12, 13, 14:
		return join(one(api.Sync, n, 0), one(api.Copy, 0, d.n(400)), one(api.Take, 0, d.n(400)))
	}
	return one(api.Take, 0, d.n(400))
}

// script: acts ahead, then drawn steps; the first so many acts of these.
func (d *drawer) script(ahead []api.Act, steps, most int, step func() []api.Act) []api.Act {
	l := slices.Clone(ahead)
	for range steps {
		l = append(l, step()...)
	}
	return l[:min(len(l), most)]
}

// asModel: at some places of the script, and at its end, the outcome is that of the model. The first act behind which it is not is told.
func asModel(t *testing.T, l []api.Act, seen map[string]int, places ...int) {
	t.Helper()
	for _, n := range append(places, len(l)) {
		o, e := crew.Run(l[:n])
		if want := modelled(l[:n], seen); e == api.OK && same(o, want) {
			continue
		}
		low, high := 0, n // behind low acts all is well, behind high ones not
		for high-low > 1 {
			half := (low + high) / 2
			o, e := crew.Run(l[:half])
			if want := modelled(l[:half], map[string]int{}); e == api.OK && same(o, want) {
				low = half
			} else {
				high = half
			}
		}
		o, e = crew.Run(l[:high])
		want := modelled(l[:high], map[string]int{})
		t.Fatalf("behind %d acts, the last one %+v: %d\n%+v\nwant\n%+v", high, l[high-1], int(e), o, want)
	}
}

// enough: each of these things happened so often, at least.
func enough(t *testing.T, seen map[string]int, least int, what ...string) {
	t.Helper()
	for _, w := range what {
		if seen[w] < least {
			t.Errorf("%s: only %d times", w, seen[w])
		}
	}
}

// Drawn acts, with a fault now and then, held against the model.
func TestCalmActs(t *testing.T) {
	seen := map[string]int{}
	for seed := range 200 {
		d := &drawer{die: die(seed)}
		l := d.script(d.lead(), 60, 900, d.calm)
		asModel(t, l, seen, d.n(len(l)), d.n(len(l)))
	}
	enough(t, seen, 10, "refused pre", "elder term", "ship", "nothing to trim", "ack that is not yes", "heap that does not fit", "torn record",
		"comes to one that is down", "act of one that is down", "ceased: leads", "ceased: follows", "crash while somebody waits", "time of the store", "time of the log")
}

// Drawn acts at any time, held against the model.
func TestWildActs(t *testing.T) {
	seen := map[string]int{}
	for seed := range 250 {
		d := &drawer{die: die(1000 + seed)}
		l := d.script([][]api.Act{nil, led, withClient}[d.n(3)], 400, 900, d.wild)
		asModel(t, l, seen, d.n(len(l)))
	}
	enough(t, seen, 10, "refused pre", "late pre-ok", "vote for an older log", "asks anew", "items replaced", "none on their way", "ceased: leads", "ceased: stands", "ceased: asks")
}

// Drawn acts whose messages come late, in any order, and twice, held against the model.
func TestLateActs(t *testing.T) {
	seen := map[string]int{}
	for seed := range 300 {
		d := &drawer{die: die(2000 + seed)}
		l := d.script([][]api.Act{nil, led, withClient}[d.n(3)], 500, 900, d.late)
		asModel(t, l, seen, d.n(len(l)))
	}
	enough(t, seen, 10, "refused pre", "late pre-ok", "vote again", "vote for an older log", "asks anew", "items replaced", "ship behind what is done",
		"heap of a place that is trimmed", "ack that is not yes behind one that is", "ceased: leads", "ceased: stands", "ceased: asks")
}
