package lines

import (
	"strconv"

	"rostrum/api"
)

// digits of a byte's two halves.
const digits = "0123456789abcdef"

// words of an act that may be.
func words(a api.Act) []string {
	x := shapes[a.Kind]
	l := []string{x.word}
	if x.node {
		l = append(l, strconv.Itoa(a.Node))
	}
	if x.pick {
		l = append(l, strconv.Itoa(a.Pick))
	}
	if x.call {
		l = append(l, callWords(a.Call)...)
	}
	return l
}

func callWords(c api.Call) []string {
	if c.Client == 0 {
		return []string{open}
	}
	d := c.Command
	return []string{
		strconv.Itoa(c.Client), strconv.Itoa(c.Seq), commands[d.Kind],
		showText(d.Key), showText(d.Field), showText(d.Text), strconv.Itoa(d.N),
	}
}

func showText(s string) string {
	b := []byte{'.'}
	for i := range len(s) {
		b = append(b, digits[s[i]>>4], digits[s[i]&15])
	}
	return string(b)
}
