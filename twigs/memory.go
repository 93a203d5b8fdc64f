package twigs

import (
	"slices"

	"paddock/api"
)

// marks are what spare room is full of.
const (
	room api.NodeKind = 66
	blot api.NodeKind = 77
)

// Blot writes over all memory that a tree has, spare room too.
func Blot(n api.Node) {
	for _, k := range n.Kids {
		Blot(k)
	}
	kids := n.Kids[:cap(n.Kids)]
	for i := range kids {
		kids[i] = Leaf(blot)
	}
}

// Roomy is the same tree with spare room, full of marks, in each list.
func Roomy(n api.Node) api.Node {
	var kids []api.Node
	for _, k := range n.Kids {
		kids = append(kids, Roomy(k))
	}
	n.Kids = append(slices.Clip(kids), Leaf(room), Leaf(room))[:len(kids)]
	return n
}

// Untouched tells whether the spare room of what Roomy made is as it was made.
func Untouched(n api.Node) bool {
	for _, k := range n.Kids {
		if !Untouched(k) {
			return false
		}
	}
	spare := n.Kids[len(n.Kids) : len(n.Kids)+2]
	return spare[0].Kind == room && spare[1].Kind == room
}

// Apart tells whether no two lists of a tree have memory in common, spare room included: each is marked in turn, and seen by none of the others.
func Apart(n api.Node) bool {
	seen := map[*api.Node]struct{}{}
	var look func(n api.Node) bool
	look = func(n api.Node) bool {
		all := n.Kids[:cap(n.Kids)]
		for i := range all {
			if _, again := seen[&all[i]]; again {
				return false
			}
			seen[&all[i]] = struct{}{}
		}
		return !slices.ContainsFunc(n.Kids, func(k api.Node) bool { return !look(k) })
	}
	return look(n)
}
