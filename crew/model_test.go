package crew_test

import (
	"sort"

	"rostrum/api"
	"rostrum/client"
	"rostrum/ledger"
	"rostrum/tape"
	"rostrum/wire"
)

// written: a record of the model's tape, and how many bytes it takes.
type written struct {
	r    api.Record
	size int
}

// awaited: what somebody waits for.
type awaited struct {
	place, term int
	call        api.Call
}

// figure: the model's node. It has the document's words as they stand: who waits for what is kept in a list, the tape is a list of records, and what most have is counted place by place.
type figure struct {
	m         *model
	id        int
	up        bool
	clock     int
	does      string
	term      int
	vote      int
	snap      api.Snap
	log       api.Log
	machine   api.Machine
	done      int
	tape      []written
	bytes     int
	synced    int
	waits     []api.Message
	asked     []awaited
	forIt     map[int]bool
	next, has map[int]int
}

// model of the whole; seen: how often what happened.
type model struct {
	figures []*figure
	away    []api.Message
	out     api.Outcome
	seen    map[string]int
}

func startedModel(seen map[string]int) *model {
	m := &model{seen: seen}
	for i := range 3 {
		m.figures = append(m.figures, &figure{m: m, id: i, up: true, does: "follows", vote: -1, snap: api.Snap{Machine: client.New()}, machine: client.New()})
	}
	return m
}

// modelled: what the model makes of acts that may be.
func modelled(l []api.Act, seen map[string]int) api.Outcome {
	m := startedModel(seen)
	for _, a := range l {
		m.act(a)
	}
	o := m.out
	for _, f := range m.figures {
		o.Nodes = append(o.Nodes, api.View{Up: f.up, Term: f.term, Leads: f.does == "leads", Commit: f.done, Log: f.log, Machine: f.machine})
	}
	sort.Slice(o.Led, func(i, j int) bool { return o.Led[i].Term < o.Led[j].Term })
	o.Away = len(m.away)
	return o
}

func (m *model) act(a api.Act) {
	f := m.figures[a.Node]
	switch a.Kind {
	case api.Ask:
		f.ask(a.Call)
		return
	case api.Tick:
		if f.clock += a.Pick; f.clock > api.MaxTime {
			m.seen["clock at its end"]++
			f.clock = api.MaxTime
		}
		return
	case api.Start:
		f.up = true
		return
	case api.Take, api.Lose, api.Copy, api.Flow:
		m.road(a)
		return
	}
	if !f.up {
		m.seen["act of one that is down"]++
		return
	}
	switch a.Kind {
	case api.Stand:
		f.stand()
	case api.Work:
		f.work()
	case api.Sync:
		f.sync()
	case api.Crash:
		f.crash(a.Pick)
	case api.Trim:
		f.trim()
	}
}

// road: acts with what is on its way.
func (m *model) road(a api.Act) {
	n := len(m.away)
	if n == 0 {
		m.seen["none on their way"]++
		return
	}
	if a.Kind == api.Flow {
		all := m.away
		m.away = nil
		for _, x := range all {
			m.figures[x.To].comes(x)
		}
		return
	}
	at := a.Pick
	for at >= n {
		at -= n
	}
	x := m.away[at]
	if a.Kind == api.Copy {
		m.leaves(x)
		return
	}
	var rest []api.Message
	for i, y := range m.away {
		if i != at {
			rest = append(rest, y)
		}
	}
	m.away = rest
	if a.Kind == api.Take {
		m.figures[x.To].comes(x)
	}
}

func (m *model) leaves(x api.Message) {
	if len(m.away) == 300 {
		m.seen["no room on the way"]++
		return
	}
	m.away = append(m.away, x)
}

func sizeOf(r api.Record) int {
	switch r.Kind {
	case api.Mark:
		return 3 + 1 + 3 + 1
	case api.Line:
		b, _ := wire.EncodeItem(r.Item)
		return 3 + 1 + 3 + len(b)
	}
	b, _ := wire.Encode(r.Snap.Machine)
	return 3 + 1 + 3 + 3 + len(b)
}

func (f *figure) room() int { return 400000 - f.bytes }

// writes records, if there is room for all.
func (f *figure) writes(l ...api.Record) bool {
	need := 0
	for _, r := range l {
		need += sizeOf(r)
	}
	if need > f.room() {
		f.m.seen[[]string{"", "no room for a mark", "no room for a line", "no room for a load"}[l[0].Kind]]++
		return false
	}
	for _, r := range l {
		f.tape = append(f.tape, written{r, sizeOf(r)})
	}
	f.bytes += need
	return true
}

func (f *figure) sends(to int, x api.Message) {
	if len(f.waits) == 300 {
		f.m.seen["no room to wait"]++
		return
	}
	x.From, x.To = f.id, to
	f.waits = append(f.waits, x)
}

func (f *figure) others() []int { return [][]int{{1, 2}, {0, 2}, {0, 1}}[f.id] }

func (f *figure) sync() {
	f.synced = f.bytes
	for _, x := range f.waits {
		f.m.leaves(x)
	}
	f.waits = nil
}

func (f *figure) says(no int) { f.sends(no, api.Message{Kind: api.No, Term: f.term}) }

func (f *figure) comes(x api.Message) {
	seen := f.m.seen
	if !f.up {
		seen["comes to one that is down"]++
		return
	}
	last, lastTerm, _ := ledger.Last(f.log)
	noLower := x.LastTerm > lastTerm || x.LastTerm == lastTerm && x.Last >= last
	switch x.Kind {
	case api.Pre:
		if x.Term > f.term && noLower {
			f.sends(x.From, api.Message{Kind: api.PreOk, Term: x.Term})
		} else {
			seen["refused pre"]++
			f.says(x.From)
		}
		return
	case api.PreOk:
		f.preOk(x, last, lastTerm)
		return
	}
	if x.Term > f.term {
		if !f.writes(api.Record{Kind: api.Mark, Term: x.Term, For: -1}) {
			return
		}
		seen["ceased: "+f.does]++
		f.term, f.vote, f.does, f.asked = x.Term, -1, "follows", nil
	}
	if x.Term < f.term {
		seen["elder term"]++
		if x.Kind != api.No {
			f.says(x.From)
		}
		return
	}
	switch x.Kind {
	case api.Vote:
		f.asksForVote(x, noLower)
	case api.Voted:
		if f.does == "stands" {
			f.forIt[x.From] = true
			if len(f.forIt) >= 2 {
				f.leads()
			}
		}
	case api.Heap, api.Ship:
		if f.does == "stands" {
			seen["yields"]++
			f.does = "follows"
		}
		if x.Kind == api.Heap {
			f.heap(x)
		} else {
			f.ship(x)
		}
	case api.Ack:
		if f.does == "leads" {
			f.ack(x)
		}
	}
}

func (f *figure) stand() {
	if f.does == "leads" || f.term >= 1<<20 {
		return
	}
	if f.does == "stands" {
		f.m.seen["asks anew"]++
	}
	f.does, f.forIt = "asks", map[int]bool{f.id: true}
	last, lastTerm, _ := ledger.Last(f.log)
	for _, o := range f.others() {
		f.sends(o, api.Message{Kind: api.Pre, Term: f.term + 1, Last: last, LastTerm: lastTerm})
	}
}

func (f *figure) preOk(x api.Message, last, lastTerm int) {
	if f.does != "asks" || x.Term != f.term+1 {
		f.m.seen["late pre-ok"]++
		return
	}
	f.forIt[x.From] = true
	if len(f.forIt) < 2 || f.term >= 1<<20 || !f.writes(api.Record{Kind: api.Mark, Term: f.term + 1, For: f.id}) {
		return
	}
	f.term++
	f.vote, f.does, f.forIt = f.id, "stands", map[int]bool{f.id: true}
	for _, o := range f.others() {
		f.sends(o, api.Message{Kind: api.Vote, Term: f.term, Last: last, LastTerm: lastTerm})
	}
}

func (f *figure) asksForVote(x api.Message, noLower bool) {
	switch {
	case !noLower:
		f.m.seen["vote for an older log"]++
	case f.vote == x.From:
		f.m.seen["vote again"]++
		f.sends(x.From, api.Message{Kind: api.Voted, Term: f.term})
		return
	case f.vote == -1 && f.writes(api.Record{Kind: api.Mark, Term: f.term, For: x.From}):
		f.vote = x.From
		f.sends(x.From, api.Message{Kind: api.Voted, Term: f.term})
		return
	}
	f.says(x.From)
}

func (f *figure) leads() {
	f.does = "leads"
	f.m.out.Led = append(f.m.out.Led, api.Lead{Term: f.term, Node: f.id})
	last, _, _ := ledger.Last(f.log)
	f.next, f.has = map[int]int{}, map[int]int{}
	for _, o := range f.others() {
		f.next[o] = last + 1
	}
	if f.lays(true, api.Call{}) == 0 {
		f.m.seen["no room for the nop"]++
	}
	f.work()
}

// lays an item: its place, 0, if it can't.
func (f *figure) lays(nop bool, c api.Call) int {
	time := f.clock
	if f.machine.Store.Now > time {
		time = f.machine.Store.Now
		f.m.seen["time of the store"]++
	}
	for _, x := range f.log.Items {
		if x.Time > time {
			time = x.Time
			f.m.seen["time of the log"]++
		}
	}
	last, lastTerm, _ := ledger.Last(f.log)
	x := api.Item{Term: f.term, Time: time, Nop: nop, Call: c}
	l, _, _, e := ledger.Match(f.log, last, lastTerm, []api.Item{x})
	if e != api.OK {
		f.m.seen["full log"]++
		return 0
	}
	if !f.writes(api.Record{Kind: api.Line, Index: last + 1, Item: x}) {
		return 0
	}
	f.log = l
	return last + 1
}

func (f *figure) tells(c api.Call, r api.Reply) {
	f.m.out.Told = append(f.m.out.Told, api.Told{Node: f.id, Call: c, Reply: r})
}

func (f *figure) ask(c api.Call) {
	if !f.up {
		f.tells(c, api.Reply{Code: api.ErrState})
		return
	}
	if f.does != "leads" {
		f.tells(c, api.Reply{Code: api.ErrLead})
		return
	}
	place := f.lays(false, c)
	if place == 0 {
		f.tells(c, api.Reply{Code: api.ErrFull})
		return
	}
	f.asked = append(f.asked, awaited{place, f.term, c})
}

func (f *figure) work() {
	if f.does != "leads" {
		return
	}
	for _, o := range f.others() {
		ahead := f.next[o] - 1
		if ahead < f.log.Base {
			f.m.seen["ship"]++
			f.sends(o, api.Message{Kind: api.Ship, Term: f.term, Snap: f.snap})
			continue
		}
		x := api.Message{Kind: api.Heap, Term: f.term, Last: ahead, Commit: f.done}
		x.LastTerm, _ = ledger.Term(f.log, ahead)
		for at := ahead + 1; at <= ahead+8 && at <= f.log.Base+len(f.log.Items); at++ {
			x.Items = append(x.Items, f.log.Items[at-f.log.Base-1])
		}
		f.sends(o, x)
	}
}

// doneUpTo a place, one by one.
func (f *figure) doneUpTo(place int) {
	for f.done < place {
		f.done++
		x := f.log.Items[f.done-f.log.Base-1]
		if x.Nop {
			continue
		}
		m, r, _ := client.Do(f.machine, x.Time, x.Call)
		f.machine = m
		for _, w := range f.asked {
			if w.place == f.done && w.term == x.Term {
				f.tells(w.call, r)
			}
		}
	}
}

func (f *figure) heap(x api.Message) {
	l, fits, fresh, e := ledger.Match(f.log, x.Last, x.LastTerm, x.Items)
	if e != api.OK {
		f.m.seen["heap with an error"]++
		return
	}
	if !fits {
		f.m.seen["heap that does not fit"]++
		f.sends(x.From, api.Message{Kind: api.Ack, Term: f.term, Last: f.done})
		return
	}
	if x.Last < f.log.Base {
		f.m.seen["heap of a place that is trimmed"]++
	}
	if fresh != 0 {
		var all []api.Record
		for at := fresh; at <= x.Last+len(x.Items); at++ {
			all = append(all, api.Record{Kind: api.Line, Index: at, Item: x.Items[at-x.Last-1]})
		}
		if !f.writes(all...) {
			return
		}
		if fresh <= f.log.Base+len(f.log.Items) {
			f.m.seen["items replaced"]++
		}
	}
	f.log = l
	have := x.Last + len(x.Items)
	f.sends(x.From, api.Message{Kind: api.Ack, Term: f.term, Yes: true, Last: have})
	if have > x.Commit {
		have = x.Commit
	}
	f.doneUpTo(have)
}

func (f *figure) ship(x api.Message) {
	if x.Snap.Index > f.done {
		if !f.writes(api.Record{Kind: api.Load, Snap: x.Snap}) {
			return
		}
		f.log, _ = tape.Rest(f.log, x.Snap)
		f.snap, f.machine, f.done = x.Snap, x.Snap.Machine, x.Snap.Index
	} else {
		f.m.seen["ship behind what is done"]++
	}
	f.sends(x.From, api.Message{Kind: api.Ack, Term: f.term, Yes: true, Last: x.Snap.Index})
}

func (f *figure) ack(x api.Message) {
	if !x.Yes {
		f.m.seen["ack that is not yes"]++
		f.next[x.From] = x.Last + 1
		if f.has[x.From] > x.Last {
			f.m.seen["ack that is not yes behind one that is"]++
			f.next[x.From] = f.has[x.From] + 1
		}
		return
	}
	if x.Last > f.has[x.From] {
		f.has[x.From] = x.Last
	}
	if x.Last+1 > f.next[x.From] {
		f.next[x.From] = x.Last + 1
	}
	for at := f.log.Base + len(f.log.Items); at > f.done; at-- {
		has := 1
		for _, o := range f.others() {
			if f.has[o] >= at {
				has++
			}
		}
		if term, _ := ledger.Term(f.log, at); has >= 2 && term == f.term {
			f.doneUpTo(at)
			break
		} else if has >= 2 {
			f.m.seen["most have it, but it is of an elder term"]++
		}
	}
}

func (f *figure) trim() {
	if f.done <= f.log.Base {
		f.m.seen["nothing to trim"]++
		return
	}
	s := api.Snap{Index: f.done, Machine: f.machine}
	s.Term, _ = ledger.Term(f.log, f.done)
	if f.writes(api.Record{Kind: api.Load, Snap: s}) {
		f.snap = s
		f.log, _ = ledger.Trim(f.log, f.done)
	}
}

func (f *figure) crash(keep int) {
	if len(f.asked) > 0 {
		f.m.seen["crash while somebody waits"]++
	}
	left := f.synced + keep
	if left > f.bytes {
		left = f.bytes
	}
	var all []api.Record
	var whole []written
	at := 0
	for _, w := range f.tape {
		if at+w.size > left {
			if at < left {
				f.m.seen["torn record"]++
			}
			break
		}
		at += w.size
		all, whole = append(all, w.r), append(whole, w)
	}
	d, e := tape.Fold(all)
	if e != api.OK {
		panic("a tape that is not in its order")
	}
	*f = figure{m: f.m, id: f.id, clock: f.clock, does: "follows", term: d.Term, vote: d.For, snap: d.Snap, log: d.Log,
		machine: d.Snap.Machine, done: d.Snap.Index, tape: whole, bytes: at, synced: at}
}
