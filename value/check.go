package value

import (
	"slices"

	"rostrum/api"
	"rostrum/bounds"
)

// Check a value.
func Check(v api.Value) api.Errno {
	switch {
	case v.Kind < api.Text || v.Kind > api.Rank:
		return api.ErrKind
	case hasForeign(v):
		return api.ErrForm
	case !sizesMayBe(v):
		return api.ErrSize
	case !numbersMayBe(v):
		return api.ErrRange
	case !orderMayBe(v):
		return api.ErrOrder
	}
	return api.OK
}

// CheckCommand: may it be?
func CheckCommand(c api.Command) api.Errno {
	switch {
	case c.Kind < api.Put || c.Kind > api.Keys:
		return api.ErrKind
	case hasForeignPart(c):
		return api.ErrForm
	case !partsMayBe(c):
		return api.ErrSize
	case !bounds.IsCount(c.N):
		return api.ErrRange
	}
	return api.OK
}

// hasForeign: does a value have something that its kind has not?
func hasForeign(v api.Value) bool {
	return v.Kind != api.Text && v.Text != "" ||
		v.Kind != api.Count && v.Count != 0 ||
		v.Kind != api.Hash && len(v.Pairs) > 0 ||
		v.Kind != api.List && v.Kind != api.Set && len(v.Items) > 0 ||
		v.Kind != api.Rank && len(v.Scores) > 0
}

func sizesMayBe(v api.Value) bool {
	if n := elements(v); holdsElements(v.Kind) && (n < 1 || n > api.MaxItems) {
		return false
	}
	wrongPair := func(p api.Pair) bool { return !bounds.IsKey(p.Field) || !bounds.IsText(p.Text) }
	wrongItem := func(s string) bool { return !bounds.IsText(s) }
	wrongScore := func(s api.Score) bool { return !bounds.IsText(s.Member) }
	return bounds.IsText(v.Text) &&
		!slices.ContainsFunc(v.Pairs, wrongPair) &&
		!slices.ContainsFunc(v.Items, wrongItem) &&
		!slices.ContainsFunc(v.Scores, wrongScore)
}

func numbersMayBe(v api.Value) bool {
	wrong := func(s api.Score) bool { return !bounds.IsCount(s.N) }
	return bounds.IsCount(v.Count) && !slices.ContainsFunc(v.Scores, wrong)
}

func orderMayBe(v api.Value) bool {
	textBelow := func(a, b string) bool { return a < b }
	switch v.Kind {
	case api.Hash:
		return rise(v.Pairs, func(a, b api.Pair) bool { return a.Field < b.Field })
	case api.Set:
		return rise(v.Items, textBelow)
	case api.Rank:
		// Sorted members rise only if none of them stands there twice.
		members := names(v)
		slices.Sort(members)
		below := func(a, b api.Score) bool { return compareScores(a, b) < 0 }
		return rise(v.Scores, below) && rise(members, textBelow)
	}
	return true
}

// rise: is each element below the one behind it?
func rise[T any](l []T, below func(a, b T) bool) bool {
	for i := 1; i < len(l); i++ {
		if !below(l[i-1], l[i]) {
			return false
		}
	}
	return true
}

// hasForeignPart: does a command have something that its kind has not?
func hasForeignPart(c api.Command) bool {
	return !hasKey(c.Kind) && c.Key != "" ||
		!hasField(c.Kind) && c.Field != "" ||
		!hasText(c.Kind) && c.Text != "" ||
		!hasNumber(c.Kind) && c.N != 0
}

// partsMayBe: are the key, the field and the text of a command of a length that may be?
func partsMayBe(c api.Command) bool {
	return (!hasKey(c.Kind) || bounds.IsKey(c.Key)) &&
		(!hasField(c.Kind) || bounds.IsKey(c.Field)) &&
		bounds.IsText(c.Text)
}
