package value

import "rostrum/api"

// isNone: a value that is all empty stands for none.
func isNone(v api.Value) bool {
	return v.Kind == 0 && v.Text == "" && v.Count == 0 && elements(v) == 0
}

// elements: how many a value has.
func elements(v api.Value) int {
	return len(v.Pairs) + len(v.Items) + len(v.Scores)
}

// holdsElements: is a value of this kind made of elements?
func holdsElements(kind int) bool {
	switch kind {
	case api.Hash, api.List, api.Set, api.Rank:
		return true
	}
	return false
}

// kindOf the values that a command is for; 0, if it is for those of several kinds.
func kindOf(command int) int {
	switch command {
	case api.Put, api.Get:
		return api.Text
	case api.Add:
		return api.Count
	case api.HSet, api.HGet, api.HDel:
		return api.Hash
	case api.Push, api.Front, api.Pop, api.Shift:
		return api.List
	case api.SAdd, api.SRem, api.SHas:
		return api.Set
	case api.ZAdd, api.ZRem, api.ZRank:
		return api.Rank
	}
	return 0
}

// fits: can a value of this kind be given to the command?
func fits(kind, command int) bool {
	switch command {
	case api.Put:
		return true
	case api.Len, api.All:
		return holdsElements(kind)
	}
	return kind == kindOf(command)
}

// makes: does the command make a value where there is none?
func makes(command int) bool {
	switch command {
	case api.Put, api.Add, api.HSet, api.Push, api.Front, api.SAdd, api.ZAdd:
		return true
	}
	return false
}

// isOfStore: is the command about keys, and not about what stands under one?
func isOfStore(command int) bool {
	switch command {
	case api.Del, api.Expire, api.Life, api.Keys:
		return true
	}
	return false
}

func hasKey(command int) bool { return command != api.Keys }

func hasField(command int) bool { return kindOf(command) == api.Hash }

func hasText(command int) bool {
	switch command {
	case api.Put, api.HSet, api.Push, api.Front,
		api.SAdd, api.SRem, api.SHas,
		api.ZAdd, api.ZRem, api.ZRank:
		return true
	}
	return false
}

func hasNumber(command int) bool {
	switch command {
	case api.Add, api.ZAdd, api.Expire:
		return true
	}
	return false
}
