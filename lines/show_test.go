package lines_test

import (
	"fmt"
	"testing"

	"rostrum/api"
	"rostrum/lines"
)

// shown: Show should tell these lines.
func shown(t *testing.T, l []api.Act, want string) {
	t.Helper()
	if s, i, e := lines.Show(l); s != want || i != 0 || e != api.OK {
		t.Errorf("%+v: %q %d %d, want %q", l, s, i, int(e), want)
	}
}

// refusedActs: Show should tell that error, and that place.
func refusedActs(t *testing.T, l []api.Act, place int, want api.Errno) {
	t.Helper()
	if s, i, e := lines.Show(l); s != "" || i != place || e != want {
		t.Errorf("%d acts: %q, %d at %d, want %d at %d", len(l), s, int(e), i, int(want), place)
	}
}

// P7.2: the line of an act of each kind, and of a command of each kind.
func TestLines(t *testing.T) {
	all := ""
	var l []api.Act
	for _, p := range somePairs() {
		shown(t, []api.Act{p.a}, p.line+"\n")
		all, l = all+p.line+"\n", append(l, p.a)
	}
	shown(t, l, all)
	shown(t, nil, "")
	shown(t, []api.Act{}, "")
}

// P7.2: texts with every byte.
func TestTextsOfLines(t *testing.T) {
	for _, s := range everyByte() {
		shown(t, []api.Act{do(api.Put, "k", "", s, 0)}, fmt.Sprintf("ask 1 2 3 put .6b . .%x 0\n", s))
		k := s[:api.MaxKey]
		shown(t, []api.Act{do(api.HSet, k, k[1:], s[1:], 0)}, fmt.Sprintf("ask 1 2 3 hset .%x .%x .%x 0\n", k, k[1:], s[1:]))
	}
}

// P7.2: numbers of each length.
func TestNumbersOfLines(t *testing.T) {
	for n := 1; n <= api.MaxCount; n *= 3 {
		shown(t, []api.Act{do(api.Add, "k", "", "", n), do(api.ZAdd, "k", "", "", -n)},
			fmt.Sprintf("ask 1 2 3 add .6b . . %d\nask 1 2 3 zadd .6b . . -%d\n", n, n))
		if n <= top {
			shown(t, []api.Act{ask(2, call(n, 1, keys)), ask(2, call(1, n, keys))},
				fmt.Sprintf("ask 2 %d 1 keys . . . 0\nask 2 1 %d keys . . . 0\n", n, n))
		}
		if n <= api.MaxTape {
			shown(t, []api.Act{act(api.Take, 0, n), act(api.Crash, 1, n)}, fmt.Sprintf("take %d\ncrash 1 %d\n", n, n))
		}
	}
}

// flows: n acts that may be.
func flows(n int) []api.Act {
	var l []api.Act
	for range n {
		l = append(l, act(api.Flow, 0, 0))
	}
	return l
}

// P7.2: MaxActs acts, and more; that these are too many is told ahead of what is wrong with one of them.
func TestManyActs(t *testing.T) {
	s, i, e := lines.Show(flows(api.MaxActs))
	if len(s) != 5*api.MaxActs || i != 0 || e != api.OK {
		t.Errorf("%d bytes, %d at %d", len(s), int(e), i)
	}
	for _, n := range []int{1, 2, api.MaxActs} {
		refusedActs(t, flows(api.MaxActs+n), 0, api.ErrSize)
	}
	for _, place := range []int{0, 1, api.MaxActs - 1, api.MaxActs} {
		l := flows(api.MaxActs + 1)
		l[place].Pick = 1
		refusedActs(t, l, 0, api.ErrSize)
		if place < api.MaxActs {
			refusedActs(t, l[:api.MaxActs], place, api.ErrForm)
		}
	}
}

// P7.2: an act that may not be tells its error and its place, the first one of such.
func TestFirstWrongAct(t *testing.T) {
	for i, x := range append(wrongActs(), oddActs()...) {
		refusedActs(t, []api.Act{x.a}, 0, x.e)
		refusedActs(t, []api.Act{x.a, act(0, 0, 0)}, 0, x.e)
		ahead := someActs()[:i%5]
		refusedActs(t, append(ahead, x.a), i%5, x.e)
		refusedActs(t, append(ahead, x.a, act(api.Flow, 0, 0), act(api.Take, 1, 0), act(99, 0, 0), act(api.Work, 3, 0)), i%5, x.e)
	}
}
