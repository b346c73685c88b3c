package lines

import "rostrum/api"

// shape of the acts of a kind: their word, and what they have.
type shape struct {
	word             string
	node, pick, call bool
}

// shapes by the kinds of acts.
var shapes = [...]shape{
	api.Ask:   {word: "ask", node: true, call: true},
	api.Stand: {word: "stand", node: true},
	api.Work:  {word: "work", node: true},
	api.Sync:  {word: "sync", node: true},
	api.Tick:  {word: "tick", node: true, pick: true},
	api.Take:  {word: "take", pick: true},
	api.Lose:  {word: "lose", pick: true},
	api.Copy:  {word: "copy", pick: true},
	api.Crash: {word: "crash", node: true, pick: true},
	api.Start: {word: "start", node: true},
	api.Trim:  {word: "trim", node: true},
	api.Flow:  {word: "flow"},
}

// commands: their words, by their kinds.
var commands = [...]string{
	api.Put:    "put",
	api.Get:    "get",
	api.Add:    "add",
	api.HSet:   "hset",
	api.HGet:   "hget",
	api.HDel:   "hdel",
	api.Push:   "push",
	api.Front:  "front",
	api.Pop:    "pop",
	api.Shift:  "shift",
	api.SAdd:   "sadd",
	api.SRem:   "srem",
	api.SHas:   "shas",
	api.ZAdd:   "zadd",
	api.ZRem:   "zrem",
	api.ZRank:  "zrank",
	api.Len:    "len",
	api.All:    "all",
	api.Del:    "del",
	api.Expire: "expire",
	api.Life:   "life",
	api.Keys:   "keys",
}

// open stands for the call of somebody who would be a client.
const open = "open"

// actOf a word: its kind; 0, if there is none.
func actOf(word string) int {
	for kind := api.Ask; kind <= api.Flow; kind++ {
		if shapes[kind].word == word {
			return kind
		}
	}
	return 0
}

// commandOf a word: its kind; 0, if there is none.
func commandOf(word string) int {
	for kind := api.Put; kind <= api.Keys; kind++ {
		if commands[kind] == word {
			return kind
		}
	}
	return 0
}

// hasForeign: does an act have something that its kind has not?
func hasForeign(a api.Act) bool {
	x := shapes[a.Kind]
	return !x.node && a.Node != 0 ||
		!x.pick && a.Pick != 0 ||
		!x.call && a.Call != api.Call{}
}
