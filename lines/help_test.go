package lines_test

import (
	"math"
	"strings"
	"testing"

	"rostrum/api"
	"rostrum/lines"
)

const top = api.MaxNumber

// run of n bytes, as a text.
func run(n int) string { return strings.Repeat("q", n) }

func act(kind, node, pick int) api.Act { return api.Act{Kind: kind, Node: node, Pick: pick} }

func ask(node int, c api.Call) api.Act { return api.Act{Kind: api.Ask, Node: node, Call: c} }

func call(id, seq int, c api.Command) api.Call { return api.Call{Client: id, Seq: seq, Command: c} }

func command(kind int, key, field, text string, n int) api.Command {
	return api.Command{Kind: kind, Key: key, Field: field, Text: text, N: n}
}

// do: an Ask with a command, of a client that may be.
func do(kind int, key, field, text string, n int) api.Act {
	return ask(1, call(2, 3, command(kind, key, field, text, n)))
}

var keys = command(api.Keys, "", "", "", 0)

// everyByte: texts of MaxText bytes at most, in which each byte stands once.
func everyByte() []string {
	var l []string
	for from := 0; from < 256; from += api.MaxText {
		s := ""
		for b := from; b < min(from+api.MaxText, 256); b++ {
			s += string([]byte{byte(b)})
		}
		l = append(l, s)
	}
	return l
}

// pair of an act and its line.
type pair struct {
	a    api.Act
	line string
}

// somePairs: an act of each kind and a command of each kind, at the bounds too.
func somePairs() []pair {
	return []pair{
		{act(api.Ask, 0, 0), "ask 0 open"},
		{act(api.Ask, 2, 0), "ask 2 open"},
		{act(api.Stand, 0, 0), "stand 0"},
		{act(api.Stand, 2, 0), "stand 2"},
		{act(api.Work, 1, 0), "work 1"},
		{act(api.Sync, 2, 0), "sync 2"},
		{act(api.Tick, 0, 0), "tick 0 0"},
		{act(api.Tick, 2, 400000), "tick 2 400000"},
		{act(api.Tick, 1, 70), "tick 1 70"},
		{act(api.Take, 0, 0), "take 0"},
		{act(api.Take, 0, 400000), "take 400000"},
		{act(api.Lose, 0, 9), "lose 9"},
		{act(api.Copy, 0, 10), "copy 10"},
		{act(api.Crash, 2, 1), "crash 2 1"},
		{act(api.Crash, 0, 399999), "crash 0 399999"},
		{act(api.Start, 1, 0), "start 1"},
		{act(api.Trim, 2, 0), "trim 2"},
		{act(api.Flow, 0, 0), "flow"},
		{do(api.Put, "k", "", "ab", 0), "ask 1 2 3 put .6b . .6162 0"},
		{do(api.Put, "k", "", "", 0), "ask 1 2 3 put .6b . . 0"},
		{do(api.Get, "k", "", "", 0), "ask 1 2 3 get .6b . . 0"},
		{do(api.Add, "k", "", "", 70), "ask 1 2 3 add .6b . . 70"},
		{do(api.Add, "k", "", "", -1), "ask 1 2 3 add .6b . . -1"},
		{do(api.Add, "k", "", "", 1099511627776), "ask 1 2 3 add .6b . . 1099511627776"},
		{do(api.Add, "k", "", "", -1099511627776), "ask 1 2 3 add .6b . . -1099511627776"},
		{do(api.HSet, "k", "f", "t", 0), "ask 1 2 3 hset .6b .66 .74 0"},
		{do(api.HSet, "\x00\xff", "\x0a\x20", " \n", 0), "ask 1 2 3 hset .00ff .0a20 .200a 0"},
		{do(api.HGet, "k", "f", "", 0), "ask 1 2 3 hget .6b .66 . 0"},
		{do(api.HDel, "k", "f", "", 0), "ask 1 2 3 hdel .6b .66 . 0"},
		{do(api.Push, "k", "", "t", 0), "ask 1 2 3 push .6b . .74 0"},
		{do(api.Front, "k", "", "t", 0), "ask 1 2 3 front .6b . .74 0"},
		{do(api.Pop, "k", "", "", 0), "ask 1 2 3 pop .6b . . 0"},
		{do(api.Shift, "k", "", "", 0), "ask 1 2 3 shift .6b . . 0"},
		{do(api.SAdd, "k", "", "t", 0), "ask 1 2 3 sadd .6b . .74 0"},
		{do(api.SRem, "k", "", "t", 0), "ask 1 2 3 srem .6b . .74 0"},
		{do(api.SHas, "k", "", "t", 0), "ask 1 2 3 shas .6b . .74 0"},
		{do(api.ZAdd, "k", "", "t", -40), "ask 1 2 3 zadd .6b . .74 -40"},
		{do(api.ZRem, "k", "", "t", 0), "ask 1 2 3 zrem .6b . .74 0"},
		{do(api.ZRank, "k", "", "t", 0), "ask 1 2 3 zrank .6b . .74 0"},
		{do(api.Len, "k", "", "", 0), "ask 1 2 3 len .6b . . 0"},
		{do(api.All, "k", "", "", 0), "ask 1 2 3 all .6b . . 0"},
		{do(api.Del, "k", "", "", 0), "ask 1 2 3 del .6b . . 0"},
		{do(api.Expire, "k", "", "", 5), "ask 1 2 3 expire .6b . . 5"},
		{do(api.Life, "k", "", "", 0), "ask 1 2 3 life .6b . . 0"},
		{do(api.Keys, "", "", "", 0), "ask 1 2 3 keys . . . 0"},
		{ask(0, call(1, top, keys)), "ask 0 1 1048576 keys . . . 0"},
		{ask(2, call(top, 1, keys)), "ask 2 1048576 1 keys . . . 0"},
	}
}

// someActs that may be.
func someActs() []api.Act {
	var l []api.Act
	for _, p := range somePairs() {
		l = append(l, p.a)
	}
	for _, s := range everyByte() {
		l = append(l, do(api.Put, "k", "", s, 0), do(api.HSet, s[:api.MaxKey], s[len(s)-api.MaxKey:], s, 0))
	}
	return append(l, do(api.HSet, run(api.MaxKey), run(api.MaxKey), run(api.MaxText), 0))
}

// refused: an act that may not be, for one fault alone.
type refused struct {
	a api.Act
	e api.Errno
}

func outside(least, most int) []int {
	return []int{least - 1, most + 1, math.MinInt, math.MaxInt}
}

// wrongActs that have a line, though they may not be.
func wrongActs() []refused {
	var l []refused
	for _, n := range outside(0, api.Nodes-1) {
		for _, k := range []int{api.Ask, api.Stand, api.Work, api.Sync, api.Tick, api.Crash, api.Start, api.Trim} {
			l = append(l, refused{act(k, n, 0), api.ErrRange})
		}
		l = append(l, refused{ask(n, call(1, 1, keys)), api.ErrRange})
	}
	for _, n := range outside(0, api.MaxTape) {
		for _, k := range []int{api.Tick, api.Take, api.Lose, api.Copy, api.Crash} {
			l = append(l, refused{act(k, 0, n), api.ErrRange})
		}
	}
	for _, n := range append(outside(1, top), -1) {
		l = append(l, refused{ask(0, call(1, n, keys)), api.ErrRange})
		if n != 0 {
			l = append(l, refused{ask(0, call(n, 1, keys)), api.ErrRange})
		}
	}
	for _, n := range outside(-api.MaxCount, api.MaxCount) {
		l = append(l, refused{do(api.Add, "k", "", "", n), api.ErrRange}, refused{do(api.ZAdd, "k", "", "t", n), api.ErrRange})
	}
	for _, c := range []api.Command{
		command(api.Keys, "k", "", "", 0), command(api.Keys, "", "f", "", 0), command(api.Get, "k", "", "t", 0), command(api.Get, "k", "", "", 1),
		command(api.Put, "k", "f", "t", 0), command(api.Put, "k", "", "t", -1), command(api.HGet, "k", "f", "t", 0), command(api.Put, "k", "", "t", math.MinInt),
	} {
		l = append(l, refused{ask(1, call(2, 3, c)), api.ErrForm})
	}
	long := run(api.MaxKey + 1)
	return append(l, refused{do(api.Get, "", "", "", 0), api.ErrSize}, refused{do(api.Get, long, "", "", 0), api.ErrSize},
		refused{do(api.HGet, "k", "", "", 0), api.ErrSize}, refused{do(api.HGet, "k", long, "", 0), api.ErrSize},
		refused{do(api.Put, "k", "", run(api.MaxText+1), 0), api.ErrSize}, refused{do(api.Put, "k", "", run(9999), 0), api.ErrSize})
}

// oddActs have no line at all.
func oddActs() []refused {
	var l []refused
	for _, k := range []int{0, -1, api.Flow + 1, 256 + api.Ask, math.MinInt, math.MaxInt} {
		l = append(l, refused{act(k, 0, 0), api.ErrKind}, refused{act(k, 1, 1), api.ErrKind})
	}
	for _, k := range []int{api.Take, api.Lose, api.Copy, api.Flow} {
		l = append(l, refused{act(k, 1, 0), api.ErrForm}, refused{act(k, api.Nodes-1, 0), api.ErrForm})
	}
	for _, k := range []int{api.Ask, api.Stand, api.Work, api.Sync, api.Start, api.Trim, api.Flow} {
		l = append(l, refused{act(k, 0, 1), api.ErrForm}, refused{act(k, 0, api.MaxTape), api.ErrForm})
	}
	for k := api.Ask + 1; k <= api.Flow; k++ {
		for _, c := range []api.Call{{Client: 1}, {Seq: 1}, {Command: keys}, call(1, 1, keys), call(-1, -1, api.Command{})} {
			l = append(l, refused{api.Act{Kind: k, Call: c}, api.ErrForm})
		}
	}
	for _, c := range []api.Call{
		{Seq: 1}, {Seq: -1}, {Seq: math.MaxInt}, {Command: keys}, {Command: api.Command{Kind: 99}}, {Command: api.Command{Key: "k"}},
		{Command: api.Command{Field: "f"}}, {Command: api.Command{Text: "t"}}, {Command: api.Command{N: -1}}, call(0, 1, keys),
	} {
		l = append(l, refused{ask(1, c), api.ErrForm})
	}
	for _, k := range []int{0, -1, api.Keys + 1, 256 + api.Put, math.MinInt, math.MaxInt} {
		l = append(l, refused{do(k, "k", "", "", 0), api.ErrKind}, refused{ask(1, call(1, 1, api.Command{Kind: k})), api.ErrKind})
	}
	return l
}

// refusedLines: Read should tell that error, and that place.
func refusedLines(t *testing.T, s string, place int, want api.Errno) {
	t.Helper()
	if l, i, e := lines.Read(s); len(l) > 0 || i != place || e != want {
		t.Errorf("%.200q: %+v, %d at %d, want %d at %d", s, l, int(e), i, int(want), place)
	}
}

// die: numbers that look drawn, the same each time.
type die uint64

func (d *die) n(most int) int {
	*d = *d*6364136223846793005 + 1442695040888963407
	return int(uint64(*d>>33) % uint64(most))
}
