// Package twigs makes trees of expressions for the tests of the other packages; the program itself does not call it.
package twigs

import (
	"slices"
	"strconv"
	"strings"

	"paddock/api"
)

// Leaf is a node of a kind that has nothing.
func Leaf(kind api.NodeKind) api.Node { return api.Node{Kind: kind} }

// In is a set.
func In(s api.Set) api.Node { return api.Node{Kind: api.NodeSet, Set: s} }

// Of is a set of some bytes.
func Of(bytes string) api.Node {
	var s api.Set
	for i := range len(bytes) {
		s[bytes[i]/64] |= 1 << (bytes[i] % 64)
	}
	return In(s)
}

// Any is the set of all bytes.
func Any() api.Node { return In(api.Set{^uint64(0), ^uint64(0), ^uint64(0), ^uint64(0)}) }

// Cat is some nodes one behind another.
func Cat(kids ...api.Node) api.Node { return api.Node{Kind: api.NodeCat, Kids: kids} }

// Alt is one of some nodes.
func Alt(kids ...api.Node) api.Node { return api.Node{Kind: api.NodeAlt, Kids: kids} }

// Group is a group of a number.
func Group(number int, kid api.Node) api.Node {
	return api.Node{Kind: api.NodeGroup, Group: number, Kids: []api.Node{kid}}
}

// Back is a back-reference.
func Back(number int) api.Node { return api.Node{Kind: api.NodeBack, Group: number} }

// Repeat is rounds of a node.
func Repeat(least, most int, kid api.Node) api.Node {
	return api.Node{Kind: api.NodeRepeat, Min: least, Max: most, Kids: []api.Node{kid}}
}

// Each is each byte of a text, one behind another.
func Each(s string) api.Node {
	var kids []api.Node
	for i := range len(s) {
		kids = append(kids, Of(s[i:i+1]))
	}
	return Cat(kids...)
}

// Nest is a tree of a node so deep within others; over is told how deep it lies itself, from 1 on.
func Nest(deep int, inner api.Node, over func(deep int, n api.Node) api.Node) api.Node {
	for i := deep; i > 0; i-- {
		inner = over(i, inner)
	}
	return inner
}

// Same tells whether all fields are the same; nil and empty lists are alike.
func Same(a, b api.Node) bool {
	if a.Kind != b.Kind || a.Set != b.Set || a.Min != b.Min || a.Max != b.Max || a.Group != b.Group {
		return false
	}
	return slices.EqualFunc(a.Kids, b.Kids, Same)
}

// Clone shares no memory with a tree.
func Clone(n api.Node) api.Node {
	var kids []api.Node
	for _, k := range n.Kids {
		kids = append(kids, Clone(k))
	}
	n.Kids = kids
	return n
}

// Groups are the numbers of the groups of a tree, in order.
func Groups(n api.Node) []int {
	var out []int
	if n.Kind == api.NodeGroup {
		out = append(out, n.Group)
	}
	for _, k := range n.Kids {
		out = append(out, Groups(k)...)
	}
	return out
}

// Show tells a tree for a message.
func Show(n api.Node) string {
	var kids []string
	for _, k := range n.Kids {
		kids = append(kids, Show(k))
	}
	words := []string{strconv.Itoa(int(n.Kind)), bytesOf(n.Set), strconv.Itoa(n.Min), strconv.Itoa(n.Max), strconv.Itoa(n.Group)}
	return strings.Join(words, ":") + "(" + strings.Join(kids, " ") + ")"
}

func bytesOf(s api.Set) string {
	var out []byte
	for c := range 256 {
		if s[c/64]>>(c%64)&1 == 1 {
			out = append(out, byte(c))
		}
	}
	return strconv.Quote(string(out))
}
