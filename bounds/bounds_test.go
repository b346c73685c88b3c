package bounds_test

import (
	"math"
	"strings"
	"testing"

	"rostrum/api"
	"rostrum/bounds"
)

// P1.1: how long texts and keys are; lengths are told in bytes.
func TestLengths(t *testing.T) {
	for _, c := range []struct {
		s         string
		text, key bool
	}{
		{"", true, false}, {"a", true, true},
		{strings.Repeat("a", api.MaxKey), true, true}, {strings.Repeat("a", api.MaxKey+1), true, false},
		{strings.Repeat("a", api.MaxText), true, false}, {strings.Repeat("a", api.MaxText+1), false, false},
		{strings.Repeat("é", api.MaxKey/2), true, true}, {strings.Repeat("é", api.MaxKey/2+1), true, false},
		{strings.Repeat("é", api.MaxText/2+1), false, false},
	} {
		if text, key := bounds.IsText(c.s), bounds.IsKey(c.s); text != c.text || key != c.key {
			t.Errorf("%q: text %v, key %v", c.s, text, key)
		}
	}
}

// P1.1, P2.1, P3.1: the least and the greatest of each kind of number.
func TestNumbers(t *testing.T) {
	for _, c := range []struct {
		what        string
		is          func(int) bool
		least, most int
	}{
		{"count", bounds.IsCount, -api.MaxCount, api.MaxCount},
		{"time", bounds.IsTime, 0, api.MaxTime},
		{"number", bounds.IsNumber, 1, api.MaxNumber},
	} {
		for _, n := range []int{c.least, c.least + 1, 5, c.most - 1, c.most} {
			if !c.is(n) {
				t.Errorf("%d is no %s", n, c.what)
			}
		}
		for _, n := range []int{math.MinInt, c.least - 1, c.most + 1, math.MaxInt} {
			if c.is(n) {
				t.Errorf("%d is a %s", n, c.what)
			}
		}
	}
}
