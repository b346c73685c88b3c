package value

import (
	"cmp"
	"slices"

	"rostrum/api"
)

// isFull: is there no room for one more element?
func isFull(v api.Value) bool { return elements(v) >= api.MaxItems }

// number that tells whether something holds.
func number(holds bool) int {
	if holds {
		return 1
	}
	return 0
}

func performHash(v api.Value, c api.Command) (api.Value, api.Reply) {
	at, found := slices.BinarySearchFunc(v.Pairs, c.Field, func(p api.Pair, field string) int {
		return cmp.Compare(p.Field, field)
	})
	switch c.Kind {
	case api.HSet:
		return setField(v, at, found, api.Pair{Field: c.Field, Text: c.Text})
	case api.HGet:
		if !found {
			return v, api.Reply{Code: api.ErrNone}
		}
		return v, api.Reply{Text: v.Pairs[at].Text}
	}
	if found { // HDel
		v.Pairs = slices.Delete(v.Pairs, at, at+1)
	}
	return v, api.Reply{N: number(found)}
}

// setField: a pair stands at a place, for the one of its field there, if that was found.
func setField(v api.Value, at int, found bool, p api.Pair) (api.Value, api.Reply) {
	switch {
	case found:
		v.Pairs[at] = p
	case isFull(v):
		return v, api.Reply{Code: api.ErrFull}
	default:
		v.Pairs = slices.Insert(v.Pairs, at, p)
	}
	return v, api.Reply{N: number(!found)}
}

func performList(v api.Value, c api.Command) (api.Value, api.Reply) {
	switch c.Kind {
	case api.Push:
		return insertItem(v, len(v.Items), c.Text)
	case api.Front:
		return insertItem(v, 0, c.Text)
	case api.Pop:
		return removeItem(v, len(v.Items)-1)
	}
	return removeItem(v, 0) // Shift
}

func insertItem(v api.Value, at int, text string) (api.Value, api.Reply) {
	if isFull(v) {
		return v, api.Reply{Code: api.ErrFull}
	}
	v.Items = slices.Insert(v.Items, at, text)
	return v, api.Reply{N: len(v.Items)}
}

func removeItem(v api.Value, at int) (api.Value, api.Reply) {
	text := v.Items[at]
	v.Items = slices.Delete(v.Items, at, at+1)
	return v, api.Reply{Text: text}
}

func performSet(v api.Value, c api.Command) (api.Value, api.Reply) {
	at, found := slices.BinarySearch(v.Items, c.Text)
	switch c.Kind {
	case api.SAdd:
		return addItem(v, at, found, c.Text)
	case api.SRem:
		if found {
			v.Items = slices.Delete(v.Items, at, at+1)
		}
	}
	return v, api.Reply{N: number(found)}
}

// addItem: a text stands at a place of a set, unless it was found there.
func addItem(v api.Value, at int, found bool, text string) (api.Value, api.Reply) {
	if found {
		return v, api.Reply{}
	}
	if isFull(v) {
		return v, api.Reply{Code: api.ErrFull}
	}
	v.Items = slices.Insert(v.Items, at, text)
	return v, api.Reply{N: 1}
}

func performRank(v api.Value, c api.Command) (api.Value, api.Reply) {
	at := slices.IndexFunc(v.Scores, func(s api.Score) bool { return s.Member == c.Text })
	found := at >= 0
	switch c.Kind {
	case api.ZAdd:
		if !found && isFull(v) {
			return v, api.Reply{Code: api.ErrFull}
		}
		v.Scores = insertScore(withoutScore(v.Scores, at), api.Score{Member: c.Text, N: c.N})
		return v, api.Reply{N: number(!found)}
	case api.ZRem:
		v.Scores = withoutScore(v.Scores, at)
		return v, api.Reply{N: number(found)}
	}
	if !found { // ZRank
		return v, api.Reply{Code: api.ErrNone}
	}
	return v, api.Reply{N: at}
}

// withoutScore: the scores without the one at a place; below 0: all of them.
func withoutScore(l []api.Score, at int) []api.Score {
	if at < 0 {
		return l
	}
	return slices.Delete(l, at, at+1)
}

// insertScore: a score of a member that has none yet stands where its number and its member ask.
func insertScore(l []api.Score, s api.Score) []api.Score {
	at, _ := slices.BinarySearchFunc(l, s, compareScores)
	return slices.Insert(l, at, s)
}

// compareScores by their numbers, those of the same by their members.
func compareScores(a, b api.Score) int {
	if a.N != b.N {
		return cmp.Compare(a.N, b.N)
	}
	return cmp.Compare(a.Member, b.Member)
}
