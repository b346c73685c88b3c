package crew_test

import (
	"slices"
	"strings"
	"testing"

	"rostrum/api"
)

// filler of tapes, which knows by the model how much room there is on them.
type filler struct {
	m   *model
	l   []api.Act
	seq int // of the client 1
}

func newFiller() *filler {
	f := &filler{m: startedModel(map[string]int{})}
	f.does(withClient)
	return f
}

func (f *filler) does(l []api.Act) {
	for _, a := range l {
		f.m.act(a)
	}
	f.l = append(f.l, l...)
}

// asks node 0 for the client's next call.
func (f *filler) asks(c api.Command) {
	f.seq++
	f.does(ask(0, call(1, f.seq, c)))
}

// grow the machine, so that a snap of it takes some four thousand bytes.
func (f *filler) grow() {
	for i := range 120 {
		f.asks(api.Command{Kind: api.HSet, Key: "key of hash" + string(rune('a'+i%12)), Field: "field no. " + string(rune('a'+i/12)), Text: strings.Repeat("q", 20)})
		if i%8 == 7 {
			f.does(rounds(1))
		}
	}
	f.does(join(rounds(16), acts("trim 0; trim 1; trim 2")))
}

// trims nodes till none of their tapes has so much room.
func (f *filler) trims(room int, nodes ...int) {
	for {
		full := true
		f.asks(api.Command{Kind: api.Len, Key: "key of hasha"})
		f.does(acts("work 0; sync 0; flow; sync 1; sync 2; flow; work 0; sync 0; flow"))
		for _, n := range nodes {
			if f.m.figures[n].room() >= room {
				f.does(one(api.Trim, n, 0))
				full = false
			}
		}
		if full {
			return
		}
	}
}

// fills node n's tape by Lines of the client's calls, which all nodes take, till there is just so much room on it; nothing is on its way then.
func (f *filler) fills(n, room int) {
	left := f.m.figures[n].room() - room
	for i := 0; left > 0; i++ {
		line := 80
		switch { // one takes 53 to 84 bytes
		case left <= 84:
			line = left
		case left <= 168:
			line = left / 2
		case left <= 190:
			line = 60
		}
		text := min(line-53, 20)
		f.asks(api.Command{Kind: api.Put, Key: strings.Repeat("k", line-52-text), Text: strings.Repeat("q", text)})
		if left -= line; i%8 == 7 {
			f.does(rounds(2))
		}
	}
	f.does(join(rounds(4), acts("sync 1; sync 2; flow")))
}

// crammed: acts behind which one node's tape has just so much room, and the others' not much more.
func crammed(room int) []api.Act {
	f := newFiller()
	f.grow()
	f.trims(room+5600, 0, 1, 2)
	least := 0
	for n, x := range f.m.figures {
		if x.room() < f.m.figures[least].room() {
			least = n
		}
	}
	f.fills(least, room)
	return f.l
}

// crammedOne: acts behind which node n's tape has just so much room, and the others' enough.
func crammedOne(t *testing.T, n, room int) *filler {
	f := newFiller()
	f.grow()
	f.trims(room+5600, n) // a Load takes less
	f.fills(n, room)
	for i, x := range f.m.figures {
		if x.done != x.log.Base+len(x.log.Items) || i == n && x.room() != room || i != n && x.room() < 9000 {
			t.Fatalf("node %d has room for %d bytes", i, x.room())
		}
	}
	return f
}

// Drawn acts of nodes whose tapes are almost full, held against the model.
func TestFullTapes(t *testing.T) {
	seen := map[string]int{}
	ahead := crammed(250)
	for seed := range 10 {
		d := &drawer{die: die(3000 + seed), long: true}
		l := slices.Clone(ahead)
		for len(l) < api.MaxActs {
			l = append(l, []func() []api.Act{d.calm, d.wild, d.late}[d.n(3)]()...)
		}
		asModel(t, l[:api.MaxActs], seen)
	}
	enough(t, seen, 10, "no room for a mark", "no room for a line", "no room for a load")
}

// Drawn acts behind more messages than may wait, or be on their way, held against the model.
func TestTooManyMessages(t *testing.T) {
	seen := map[string]int{}
	for seed := range 12 {
		d := &drawer{die: die(4000 + seed)}
		l := join(withClient, d.script(acts("160* work 0"), 30, 400, d.wild), acts("40* work 0"))
		if seed%2 == 0 {
			l = join(l, acts("sync 0; 20* copy 7"))
		}
		asModel(t, d.script(l, 100, len(l)+300, d.late), seen)
	}
	enough(t, seen, 100, "no room to wait", "no room on the way")
}

// manyAdds of the client 1, from a call on, all done in a log that is not trimmed.
func manyAdds(from, n int) []api.Act {
	var l []api.Act
	for i := range n {
		l = append(l, ask(0, add(1, from+i))...)
		if i%api.MaxSend == 0 {
			l = append(l, rounds(2)...) // what comes of them is known a round later
		}
	}
	return join(l, rounds(3))
}

// Drawn acts of nodes whose logs are almost full, held against the model.
func TestFullLogs(t *testing.T) {
	seen := map[string]int{}
	ahead := join(withClient, manyAdds(1, 190))
	for seed := range 15 {
		d := &drawer{die: die(5000 + seed)}
		step := func() []api.Act {
			if d.n(4) > 0 {
				return d.askAll()
			}
			return d.calm()
		}
		l := ahead
		if seed%2 == 0 {
			l = join(l, acts("trim 0"), manyAdds(191, 20), rounds(4)) // the one that leads has room, the others have not
		}
		asModel(t, d.script(l, 80, len(l)+600, step), seen)
	}
	enough(t, seen, 10, "full log", "heap with an error")
}
