package lines

import (
	"strconv"
	"strings"

	"rostrum/api"
)

// reader of a line's words. Once one of them is wrong, nothing that was read counts. The fields of a struct are read in the order in which its literal names them.
type reader struct {
	rest  string
	more  bool // a word is ahead, be it an empty one
	wrong bool
}

// readLine: its act, whatever numbers and texts that has, and whether it is in form.
func readLine(line string) (api.Act, bool) {
	r := reader{rest: line, more: true}
	a := r.act()
	r.need(!r.more)
	return a, !r.wrong
}

func (r *reader) need(right bool) {
	if !right {
		r.wrong = true
	}
}

// word that is next; if there is none, an empty one, which is never right.
func (r *reader) word() string {
	var w string
	w, r.rest, r.more = strings.Cut(r.rest, " ")
	return w
}

func (r *reader) number() int {
	n, ok := readNumber(r.word())
	r.need(ok)
	return n
}

func (r *reader) text() string {
	s, ok := readText(r.word())
	r.need(ok)
	return s
}

func (r *reader) act() api.Act {
	kind := actOf(r.word())
	r.need(kind != 0)
	a := api.Act{Kind: kind}
	x := shapes[kind]
	if x.node {
		a.Node = r.number()
	}
	if x.pick {
		a.Pick = r.number()
	}
	if x.call {
		a.Call = r.call()
	}
	return a
}

func (r *reader) call() api.Call {
	first := r.word()
	if first == open {
		return api.Call{}
	}
	id, ok := readNumber(first)
	r.need(ok && id != 0)
	return api.Call{Client: id, Seq: r.number(), Command: r.command()}
}

func (r *reader) command() api.Command {
	kind := commandOf(r.word())
	r.need(kind != 0)
	return api.Command{Kind: kind, Key: r.text(), Field: r.text(), Text: r.text(), N: r.number()}
}

// readNumber: strconv takes a `+`, noughts ahead and `-0`, which are not written back as they were.
func readNumber(word string) (int, bool) {
	n, err := strconv.Atoi(word)
	if err != nil || strconv.Itoa(n) != word {
		return 0, false
	}
	return n, true
}

func readText(word string) (string, bool) {
	halves, dotted := strings.CutPrefix(word, ".")
	if !dotted || len(halves)%2 != 0 {
		return "", false
	}
	var b []byte
	for i := 0; i < len(halves); i += 2 {
		high, low := strings.IndexByte(digits, halves[i]), strings.IndexByte(digits, halves[i+1])
		if high < 0 || low < 0 {
			return "", false
		}
		b = append(b, byte(high<<4|low))
	}
	return string(b), true
}
