package syntax

import (
	"strconv"
	"strings"

	"paddock/api"
	"paddock/sets"
)

// What is no byte of its own where it stands alone: in both kinds of expressions, and in extended ones besides.
const (
	signs         = `\^$.[*`
	extendedSigns = signs + `()+?{|`
)

// writer writes a right tree.
type writer struct {
	extended bool
	byKind   [api.NodeCount]func(*writer, api.Node)
	out      []byte
}

func writers() [api.NodeCount]func(*writer, api.Node) {
	return [api.NodeCount]func(*writer, api.Node){
		api.NodeEmpty:  func(*writer, api.Node) {},
		api.NodeSet:    (*writer).set,
		api.NodeCat:    (*writer).cat,
		api.NodeAlt:    (*writer).alt,
		api.NodeRepeat: (*writer).repeat,
		api.NodeGroup:  (*writer).group,
		api.NodeBack:   func(w *writer, n api.Node) { w.put(`\` + strconv.Itoa(n.Group)) },
		api.NodeBegin:  func(w *writer, _ api.Node) { w.put("^") },
		api.NodeEnd:    func(w *writer, _ api.Node) { w.put("$") },
	}
}

func (w *writer) node(n api.Node) { w.byKind[n.Kind](w, n) }

// put gives up as soon as the text is too long: a tree may be far greater than any text.
func (w *writer) put(s string) {
	if len(w.out)+len(s) > api.MaxPattern {
		panic(fault{why: api.ErrLong})
	}
	w.out = append(w.out, s...)
}

// mark writes what an extended expression has as it is, and a basic one behind a \ .
func (w *writer) mark(s string) {
	if !w.extended {
		s = `\` + s
	}
	w.put(s)
}

func (w *writer) set(n api.Node) {
	switch {
	case n.Set == sets.Not(api.Set{}):
		w.put(".")
	case sets.Count(n.Set) == 1:
		w.put(w.byteText(sets.Bytes(n.Set)[0]))
	default:
		w.put("[" + sets.Print(n.Set))
	}
}

func (w *writer) byteText(c byte) string {
	special := signs
	if w.extended {
		special = extendedSigns
	}
	switch {
	case c == '\n':
		return `\n`
	case strings.IndexByte(special, c) >= 0:
		return string([]byte{'\\', c})
	}
	return string([]byte{c})
}

func (w *writer) cat(n api.Node) {
	for _, k := range n.Kids {
		w.node(k)
	}
}

func (w *writer) alt(n api.Node) {
	for i, k := range n.Kids {
		if i > 0 {
			w.mark("|")
		}
		w.node(k)
	}
}

func (w *writer) group(n api.Node) {
	w.mark("(")
	w.node(n.Kids[0])
	w.mark(")")
}

func (w *writer) repeat(n api.Node) {
	w.node(n.Kids[0])
	switch {
	case n.Min == 0 && n.Max == -1:
		w.put("*")
	case w.extended && n.Min == 1 && n.Max == -1:
		w.put("+")
	case w.extended && n.Min == 0 && n.Max == 1:
		w.put("?")
	default:
		w.mark("{")
		w.put(numbers(n.Min, n.Max))
		w.mark("}")
	}
}

func numbers(least, most int) string {
	s := strconv.Itoa(least)
	if most == least {
		return s
	}
	if most == -1 {
		return s + ","
	}
	return s + "," + strconv.Itoa(most)
}
