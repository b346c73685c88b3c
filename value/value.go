// Package value: values of kinds, and what commands make of them.
package value

import (
	"rostrum/api"
	"rostrum/bounds"
	"rostrum/fresh"
)

// Do a command with a value (all empty: there is none): the value behind it, and the reply.
func Do(v api.Value, c api.Command) (api.Value, api.Reply, api.Errno) {
	if e := refusal(v, c); e != api.OK {
		return api.Value{}, api.Reply{}, e
	}
	w, r := answer(v, c)
	if r.Code != api.OK {
		return fresh.Value(v), api.Reply{Code: r.Code}, api.OK
	}
	if holdsElements(w.Kind) && elements(w) == 0 {
		w = api.Value{}
	}
	return w, r, api.OK
}

// refusal: why a command can't be tried with a value at all.
func refusal(v api.Value, c api.Command) api.Errno {
	if !isNone(v) {
		if e := Check(v); e != api.OK {
			return e
		}
	}
	if e := CheckCommand(c); e != api.OK {
		return e
	}
	if isOfStore(c.Kind) {
		return api.ErrKind
	}
	return api.OK
}

// answer of a command that may be tried; what is done is done with a copy of the value.
func answer(v api.Value, c api.Command) (api.Value, api.Reply) {
	if isNone(v) {
		if !makes(c.Kind) {
			return v, api.Reply{Code: api.ErrNone}
		}
		return perform(api.Value{Kind: kindOf(c.Kind)}, c)
	}
	if !fits(v.Kind, c.Kind) {
		return v, api.Reply{Code: api.ErrType}
	}
	return perform(fresh.Value(v), c)
}

// perform a command with a value of its kind, which is the program's own and may be changed.
func perform(v api.Value, c api.Command) (api.Value, api.Reply) {
	switch c.Kind {
	case api.Put:
		return api.Value{Kind: api.Text, Text: c.Text}, api.Reply{}
	case api.Get:
		return v, api.Reply{Text: v.Text}
	case api.Add:
		return add(v, c.N)
	case api.Len:
		return v, api.Reply{N: elements(v)}
	case api.All:
		return v, api.Reply{List: names(v)}
	}
	switch v.Kind {
	case api.Hash:
		return performHash(v, c)
	case api.List:
		return performList(v, c)
	case api.Set:
		return performSet(v, c)
	}
	return performRank(v, c)
}

func add(v api.Value, n int) (api.Value, api.Reply) {
	if !bounds.IsCount(v.Count + n) {
		return v, api.Reply{Code: api.ErrOver}
	}
	v.Count += n
	return v, api.Reply{N: v.Count}
}

// names of a value's elements, in their order, as a list of their own.
func names(v api.Value) []string {
	l := fresh.List(v.Items)
	for _, p := range v.Pairs {
		l = append(l, p.Field)
	}
	for _, s := range v.Scores {
		l = append(l, s.Member)
	}
	return l
}
