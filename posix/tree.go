package posix

import (
	"iter"

	"paddock/api"
)

// maxBack is the greatest number that a back-reference has.
const maxBack = 9

// nodes yields each node of a tree, in order.
func nodes(n *api.Node) iter.Seq[*api.Node] {
	return func(yield func(*api.Node) bool) { walk(n, yield) }
}

func walk(n *api.Node, yield func(*api.Node) bool) bool {
	if !yield(n) {
		return false
	}
	for i := range n.Kids {
		if !walk(&n.Kids[i], yield) {
			return false
		}
	}
	return true
}

func same(a, b *api.Node) bool {
	if a.Kind != b.Kind || a.Set != b.Set || a.Min != b.Min || a.Max != b.Max || a.Group != b.Group || len(a.Kids) != len(b.Kids) {
		return false
	}
	for i := range a.Kids {
		if !same(&a.Kids[i], &b.Kids[i]) {
			return false
		}
	}
	return true
}

// shape is which fields a kind of node uses, and how many kids it has.
type shape struct {
	set, bounds, group  bool
	leastKids, mostKids int
}

// NodeNone has a shape that no node fits, and so has each kind beyond the table.
var shapes = [api.NodeCount]shape{
	api.NodeNone:   {leastKids: 1},
	api.NodeEmpty:  {},
	api.NodeSet:    {set: true},
	api.NodeCat:    {leastKids: 2, mostKids: api.MaxNodes},
	api.NodeAlt:    {leastKids: 2, mostKids: api.MaxNodes},
	api.NodeRepeat: {bounds: true, leastKids: 1, mostKids: 1},
	api.NodeGroup:  {group: true, leastKids: 1, mostKids: 1},
	api.NodeBack:   {group: true},
	api.NodeBegin:  {},
	api.NodeEnd:    {},
}

// fits tells whether a node has what its kind uses, and nothing else.
func fits(n *api.Node) bool {
	if n.Kind >= api.NodeCount {
		return false
	}
	k := shapes[n.Kind]
	if !k.set && n.Set != (api.Set{}) || !k.group && n.Group != 0 || !k.bounds && (n.Min != 0 || n.Max != 0) {
		return false
	}
	if k.bounds && !rightBounds(n.Min, n.Max) {
		return false
	}
	return k.leastKids <= len(n.Kids) && len(n.Kids) <= k.mostKids
}

func rightBounds(least, most int) bool {
	return least >= 0 && least <= api.MaxRepeat && (most == -1 || least <= most && most <= api.MaxRepeat)
}

// tally goes through a tree in order: how many groups have begun, and which of those that can be named have ended.
type tally struct {
	begun int
	ended [maxBack + 1]bool
}

func (t *tally) right(n *api.Node) bool {
	if !fits(n) || n.Kind == api.NodeGroup && !t.begin(n.Group) || n.Kind == api.NodeBack && !t.canName(n.Group) {
		return false
	}
	for i := range n.Kids {
		if !t.right(&n.Kids[i]) {
			return false
		}
	}
	if n.Kind == api.NodeGroup && n.Group <= maxBack {
		t.ended[n.Group] = true
	}
	return true
}

func (t *tally) begin(group int) bool {
	t.begun++
	return group == t.begun && group <= api.MaxGroups
}

func (t *tally) canName(group int) bool {
	return group >= 1 && group <= maxBack && t.ended[group]
}
