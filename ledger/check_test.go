package ledger_test

import (
	"testing"

	"rostrum/api"
	"rostrum/ledger"
)

// P5.1: which logs may be.
func TestLogsThatMayBe(t *testing.T) {
	for i, l := range goodLogs() {
		if e := ledger.Check(l); e != api.OK {
			t.Errorf("case %d: %+v: %d", i, l, int(e))
		}
	}
	if e := ledger.Check(api.Log{Items: []api.Item{}}); e != api.OK {
		t.Errorf("no items, but a list: %d", int(e))
	}
}

// P5.1: which may not.
func TestLogsThatMayNotBe(t *testing.T) {
	for i, l := range badLogs() {
		if e := ledger.Check(l); e != api.ErrState {
			t.Errorf("case %d: %+v: %d", i, l, int(e))
		}
	}
}

// P5.1: the same terms and times may come again, but not lower ones, at each place of a full log.
func TestFallsAtEachPlace(t *testing.T) {
	for i := range api.MaxLog {
		for _, c := range []struct {
			x    api.Item
			want api.Errno
		}{{nop(5, 7), api.OK}, {nop(4, 7), api.ErrState}, {nop(5, 6), api.ErrState}} {
			l := log(3, 5)
			for range api.MaxLog {
				l.Items = append(l.Items, nop(5, 7))
			}
			l.Items[i] = c.x
			want := c.want
			if i == 0 && c.x.Time == 6 {
				want = api.OK // none stands ahead of it
			}
			if e := ledger.Check(l); e != want {
				t.Errorf("%+v at %d: %d, want %d", c.x, i, int(e), int(want))
			}
		}
	}
}

// P5.1: a log that may not be is refused by all calls, ahead of all else.
func TestBadLogsAreRefused(t *testing.T) {
	for i, l := range badLogs() {
		for _, place := range []int{-1, 0, 1, 2, 3, 4, l.Base, l.Base + 1, top, top + 1} {
			if p, u, e := ledger.Last(l); p != 0 || u != 0 || e != api.ErrState {
				t.Errorf("case %d: Last: %d %d %d", i, p, u, int(e))
			}
			if u, e := ledger.Term(l, place); u != 0 || e != api.ErrState {
				t.Errorf("case %d: Term at %d: %d %d", i, place, u, int(e))
			}
			for _, most := range []int{-1, 0, 1} {
				if x, e := ledger.Behind(l, place, most); len(x) > 0 || e != api.ErrState {
					t.Errorf("case %d: Behind %d: %v %d", i, place, x, int(e))
				}
			}
			for _, of := range []int{-1, 0, 1, 3, top, top + 1} {
				if ok, e := ledger.Newer(l, place, of); ok || e != api.ErrState {
					t.Errorf("case %d: Newer %d %d: %v %d", i, place, of, ok, int(e))
				}
				for _, items := range [][]api.Item{nil, nops(of), nops(3, 1), many(api.MaxLog+1, 3)} {
					if out, fits, first, e := ledger.Match(l, place, of, items); !empty(out) || fits || first != 0 || e != api.ErrState {
						t.Errorf("case %d: Match %d %d: %v %v %d %d", i, place, of, out, fits, first, int(e))
					}
				}
			}
			if out, e := ledger.Trim(l, place); !empty(out) || e != api.ErrState {
				t.Errorf("case %d: Trim %d: %v %d", i, place, out, int(e))
			}
		}
	}
}
