package lines_test

import (
	"fmt"
	"math"
	"slices"
	"strings"
	"testing"

	"rostrum/api"
	"rostrum/lines"
)

// read: Read should tell these acts.
func read(t *testing.T, s string, want []api.Act) {
	t.Helper()
	if l, i, e := lines.Read(s); !slices.Equal(l, want) || i != 0 || e != api.OK {
		t.Errorf("%q: %+v %d %d, want %+v", s, l, i, int(e), want)
	}
}

// P7.3
func TestReadLines(t *testing.T) {
	all := ""
	var l []api.Act
	for _, p := range somePairs() {
		read(t, p.line+"\n", []api.Act{p.a})
		read(t, p.line+"\nflow\n"+p.line+"\n", []api.Act{p.a, act(api.Flow, 0, 0), p.a})
		all, l = all+p.line+"\n", append(l, p.a)
	}
	read(t, all, l)
	read(t, "", nil)
	for _, s := range everyByte() {
		read(t, fmt.Sprintf("ask 1 2 3 push .%x . .%x 0\n", s[:api.MaxKey], s), []api.Act{do(api.Push, s[:api.MaxKey], "", s, 0)})
	}
}

// wrongForm: what no act is written as.
func wrongForm() []string {
	l := []string{
		"", " ", "  ", "\x00", "\r", "flow\r", "\tflow", "\xff", "flow\x00", "f", "flo", "floww", "flow.", "asks", "open", "put", "0", ".", "-",
		"flow 0", "flow 1", "flow 9", "flow 0 0", "flow flow", "flow open", "flow .",
		"work", "work 1 0", "work 1 1", "work 9 0", "work open", "work .", "work .31", "work x", "work 1x", "work x1", "work 1.0", "work 1e0", "work 0x1", "work 1_0", "work --1",
		"work -", "work +", "work 1-", "work \uff11", "work 1,", "take", "take 0 5", "take 5 6", "take 9 400001", "take 1 1", "tick", "tick 1", "tick 1 2 3", "crash 1", "crash 1 2 3", "crash 1 .",
		"ask", "ask 1", "ask open", "ask open 1", "ask 1 open 1", "ask 1 open 1 keys . . . 0", "ask 1 open .", "ask 1 open open", "ask 1 Open", "ask 1 OPEN", "ask 1 ope", "ask 1 opens", "ask 1 .",
		"ask 1 1", "ask 1 1 1", "ask 1 1 open", "ask 1 1 1 open", "ask 1 0 open", "ask 1 0", "ask 1 0 0", "ask 1 keys . . . 0", "ask 1 1 keys . . . 0", "ask 1 2 3 4 keys . . . 0",
		"ask 1 2 3 flow . . . 0", "ask 1 2 3 22 . . . 0", "ask 1 2 3 0 . . . 0", "ask 1 2 3 . . . 0", "ask 1 2 3 key . . . 0", "ask 1 2 3 keyss . . . 0", "ask 1 2 3 none . . . 0",
		"keys . . . 0", "ask 1 2 3 keys 0", "ask 1 2 3 keys", "ask 1 2 3 keys . . .", "ask 1 2 3 keys . . 0", "ask 1 2 3 keys . . . . 0", "ask 1 2 3 keys . . . 0 0", "ask 1 2 3 keys . . . 0 .", "ask 1 2 3 keys . . . .",
		"ask 1 2 3 get .6b 0", "ask 1 2 3 get .6b . .", "ask 1 2 3 put .6b .74 0", "ask 1 2 3 add .6b 5",
	}
	for _, n := range wrongNumbers() {
		l = append(l, "work "+n, "take "+n, "tick "+n+" 1", "tick 1 "+n, "ask "+n+" open", "ask "+n+" 2 3 keys . . . 0", "ask 1 "+n+" 3 keys . . . 0", "ask 1 2 "+n+" keys . . . 0", "ask 1 2 3 keys . . . "+n)
	}
	for _, s := range wrongTexts() {
		l = append(l, "ask 1 2 3 hset "+s+" .66 .74 0", "ask 1 2 3 hset .6b "+s+" .74 0", "ask 1 2 3 hset .6b .66 "+s+" 0", "ask 1 2 3 keys . . "+s+" 0")
	}
	for _, n := range []string{"0", "00", "-0", "+0"} { // Client 0 is open, and nothing else
		l = append(l, "ask 1 "+n+" 0 keys . . . 0", "ask 1 "+n+" 3 keys . . . 0", "ask 1 "+n+" 3 put .6b . .74 0", "ask 1 "+n+" 0 . . . 0")
	}
	return append(l, strings.Repeat(" ", 999), strings.Repeat("flow ", 999)+"flow", "ask 1 2 3 get ."+strings.Repeat("6b", 9999)+"6 . . 0", "work "+strings.Repeat("1", 9999), "work "+strings.Repeat("0", 9999))
}

// wrongNumbers that are none.
func wrongNumbers() []string {
	return []string{
		"", "-", "+", "00", "01", "007", "000000000000000000001", "-01", "-00", "-0", "+0", "+1", "-+1", "--1", "1-", "1 ", " 1", "0x1", "1_0", "1.", ".1", "1.0", "1e1", "a", "\uff11", "inf", "Ask",
		"9223372036854775808", "-9223372036854775809", "18446744073709551616", "18446744073709551617", "-18446744073709551615", "10000000000000000000", "99999999999999999999999",
		"4294967296000000000000", "340282366920938463463374607431768211457", "-99999999999999999999999",
	}
}

// wrongTexts that are none.
func wrongTexts() []string {
	return []string{
		"", "6b", "..", ".6", ".6b6", ".6b.", ".6B", ".B6", ".6b6G", ".6g", ".g6", ".6 ", ". 6", ".-1", ".+1", ".0x", ".x0", ".6b ", " .6b", "6b.", "-", "0", ":6b", ".6\x00", ".\x006",
		".\uff16b", ".\u00e9", ".6/", ".6:", ".6`", ".6@", ".AB", ".aB", ".Ab", ".\xff\xff", ".6b.6b",
	}
}

// P7.3: lines in which Show would write no act.
func TestLinesOutOfForm(t *testing.T) {
	for _, s := range wrongForm() {
		refusedLines(t, s+"\n", 0, api.ErrForm)
		refusedLines(t, "flow\n"+s+"\n", 1, api.ErrForm)
		refusedLines(t, "flow\n"+s+"\n\n", 1, api.ErrForm)
		refusedLines(t, s+"\nflow\n", 0, api.ErrForm)
		refusedLines(t, s+"\nwork 3\n", 0, api.ErrForm)
		refusedLines(t, "flow\ntake 0\n"+s+"\nwork 3\nflow", 2, api.ErrForm)
	}
}

// P7.3: small letters alone, one blank between each two words, and none ahead or behind.
func TestWordsAndBlanks(t *testing.T) {
	for _, p := range somePairs() {
		for i, b := range []byte(p.line) {
			if b >= 'a' && b <= 'z' {
				refusedLines(t, p.line[:i]+string(b-32)+p.line[i+1:]+"\n", 0, api.ErrForm)
			}
			if b == ' ' {
				refusedLines(t, p.line[:i]+"  "+p.line[i+1:]+"\n", 0, api.ErrForm)
				refusedLines(t, p.line[:i]+"\t"+p.line[i+1:]+"\n", 0, api.ErrForm)
				refusedLines(t, p.line[:i]+"\n"+p.line[i+1:]+"\n", placeBehind(p.line[:i]), api.ErrForm)
				refusedLines(t, p.line[:i]+p.line[i+1:]+"\n", 0, api.ErrForm)
				refusedLines(t, p.line[:i]+" \n", 0, api.ErrForm)
			}
		}
		refusedLines(t, " "+p.line+"\n", 0, api.ErrForm)
		refusedLines(t, p.line+" \n", 0, api.ErrForm)
		refusedLines(t, p.line+" 0\n", 0, api.ErrForm)
		refusedLines(t, p.line+" 1\n", 0, api.ErrForm)
		refusedLines(t, p.line+" .\n", 0, api.ErrForm)
		if i := strings.LastIndexByte(p.line, ' '); i > 0 {
			refusedLines(t, p.line[:i]+"\n", 0, api.ErrForm)
		}
	}
}

// placeBehind: where the fault is if a line ends behind that; of what is cut so, nothing is a line but `flow`.
func placeBehind(s string) int {
	if s == "flow" {
		return 1
	}
	return 0
}

// P7.3: a last line that does not end with the byte 10.
func TestLastLineWithoutEnd(t *testing.T) {
	for _, p := range somePairs() {
		refusedLines(t, p.line, 0, api.ErrForm)
		refusedLines(t, "\n"+p.line, 0, api.ErrForm)
		refusedLines(t, p.line+"\n"+p.line, 1, api.ErrForm)
		refusedLines(t, p.line+"\n"+p.line+"\nf", 2, api.ErrForm)
		refusedLines(t, p.line+"\n\n", 1, api.ErrForm)
		refusedLines(t, p.line+"\r\n", 0, api.ErrForm)
		refusedLines(t, "work 3\n"+p.line, 0, api.ErrRange)
	}
	refusedLines(t, "work 3", 0, api.ErrForm)
	refusedLines(t, "ask 1 1 1 get . . . 0", 0, api.ErrForm)
}

// lineOf an act that may not be, as Show would write it, worked out by fmt.
func lineOf(a api.Act) string {
	word := strings.Fields(actWords)[a.Kind-1]
	switch a.Kind {
	case api.Ask:
		if a.Call == (api.Call{}) {
			return fmt.Sprintf("ask %d open\n", a.Node)
		}
		c := a.Call.Command
		return fmt.Sprintf("ask %d %d %d %s .%x .%x .%x %d\n", a.Node, a.Call.Client, a.Call.Seq, strings.Fields(commandWords)[c.Kind-1], c.Key, c.Field, c.Text, c.N)
	case api.Tick, api.Crash:
		return fmt.Sprintf("%s %d %d\n", word, a.Node, a.Pick)
	case api.Take, api.Lose, api.Copy:
		return fmt.Sprintf("%s %d\n", word, a.Pick)
	case api.Flow:
		return "flow\n"
	}
	return fmt.Sprintf("%s %d\n", word, a.Node)
}

// P7.3: lines that are in form, of acts that may not be.
func TestLinesOfWrongActs(t *testing.T) {
	for i, x := range wrongActs() {
		s := lineOf(x.a)
		refusedLines(t, s, 0, x.e)
		refusedLines(t, s+"flow", 0, x.e)
		refusedLines(t, s+"\n", 0, x.e)
		refusedLines(t, s+"ask 1 2 3 get . . . 0\n", 0, x.e)
		refusedLines(t, strings.Repeat("take 0\n", i)+s, i, x.e)
		refusedLines(t, s[:len(s)-1], 0, api.ErrForm)
		refusedLines(t, s[:len(s)-1]+" \n", 0, api.ErrForm)
	}
}

// P7.3: numbers at both ends of 64 bits are numbers, wherever they stand.
func TestEndsOfNumbers(t *testing.T) {
	for _, n := range []int{math.MinInt, math.MaxInt, math.MinInt + 1, math.MaxInt - 1} {
		for _, s := range []string{"work %d", "take %d", "tick %d 1", "tick 1 %d", "ask %d open", "ask 1 %d 3 keys . . . 0", "ask 1 2 %d keys . . . 0", "ask 1 2 3 add .6b . . %d"} {
			refusedLines(t, fmt.Sprintf(s, n)+"\n", 0, api.ErrRange)
		}
	}
}

// P7.3: that a line is out of form is told ahead of what Check refuses of it, and of that the first.
func TestFirstFaultOfLines(t *testing.T) {
	for _, s := range []string{"work 3 ", "work -1 x", "ask 3 0 1 keys . . . 0", "ask 3 -1 0 keys .6b . . 00", "ask 3 1 1 none . . . 0", "tick 3 01", "tick 03 400001", "ask 9 1 1 get . .6 . 0", "ask 3", "ask 3 open 1", "flow 3", "take 400001 0"} {
		refusedLines(t, s+"\n", 0, api.ErrForm)
	}
	for _, s := range []string{"ask 3 1 1 keys .6b . . 0", "ask -1 1 1 get . . . 1", "ask 1 -1 1 keys .6b . . 0", "ask 1 1 0 get . . . 0", "tick 3 400001"} {
		refusedLines(t, s+"\n", 0, api.ErrRange)
	}
	refusedLines(t, "ask 1 1 1 get . .66 . 9223372036854775807\n", 0, api.ErrForm)
	refusedLines(t, "ask 1 1 1 add . . . 9223372036854775807\n", 0, api.ErrSize)
}

// P7.3: MaxActs lines, and what stands behind them, whatever it is.
func TestManyLines(t *testing.T) {
	full := strings.Repeat("flow\n", api.MaxActs)
	read(t, full, flows(api.MaxActs))
	for _, s := range []string{"flow\n", "flow", "\n", " ", "x", "work 3\n", "flow\nflow\n", full, "\n\n", "\x00"} {
		refusedLines(t, full+s, api.MaxActs, api.ErrSize)
	}
	for _, place := range []int{0, 1, api.MaxActs - 1} {
		ahead, behind := strings.Repeat("flow\n", place), strings.Repeat("flow\n", api.MaxActs-place)
		refusedLines(t, ahead+"\n"+behind, place, api.ErrForm)
		refusedLines(t, ahead+"work 3\n"+behind, place, api.ErrRange)
		refusedLines(t, ahead+"work 3\n"+behind+behind, place, api.ErrRange)
	}
}
