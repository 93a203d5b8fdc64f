package syntax

import "paddock/api"

// tally counts the groups of a tree, from left to right.
type tally struct {
	begun, nest int
	ended       [maxBack + 1]bool
}

func (t *tally) right(n api.Node) bool {
	if !unusedAreZero(n) {
		return false
	}
	switch n.Kind {
	case api.NodeEmpty, api.NodeSet, api.NodeBegin, api.NodeEnd:
		return true
	case api.NodeCat, api.NodeAlt:
		return len(n.Kids) >= 2 && t.rightKids(n)
	case api.NodeRepeat:
		return len(n.Kids) == 1 && rightBounds(n.Min, n.Max) && t.rightKids(n)
	case api.NodeGroup:
		return len(n.Kids) == 1 && t.rightGroup(n)
	case api.NodeBack:
		return n.Group >= 1 && n.Group <= maxBack && t.ended[n.Group]
	}
	return false
}

// unusedAreZero tells whether all fields are zero that a node's kind does not use.
func unusedAreZero(n api.Node) bool {
	switch n.Kind {
	case api.NodeSet:
		n.Set = api.Set{}
	case api.NodeCat, api.NodeAlt:
		n.Kids = nil
	case api.NodeRepeat:
		n.Min, n.Max, n.Kids = 0, 0, nil
	case api.NodeGroup:
		n.Group, n.Kids = 0, nil
	case api.NodeBack:
		n.Group = 0
	}
	return n.Set == api.Set{} && n.Min == 0 && n.Max == 0 && n.Group == 0 && len(n.Kids) == 0
}

func rightBounds(least, most int) bool {
	if least < 0 || least > api.MaxRepeat {
		return false
	}
	return most == -1 || most >= least && most <= api.MaxRepeat
}

func (t *tally) rightKids(n api.Node) bool {
	for _, k := range n.Kids {
		if !mayStandIn(n.Kind, k.Kind) || !t.right(k) {
			return false
		}
	}
	return true
}

// mayStandIn tells whether a kind of node may be a kid right below another one.
func mayStandIn(outer, kid api.NodeKind) bool {
	switch outer {
	case api.NodeCat:
		return kid != api.NodeCat && kid != api.NodeAlt && kid != api.NodeEmpty
	case api.NodeAlt:
		return kid != api.NodeAlt
	case api.NodeRepeat:
		return kid == api.NodeSet || kid == api.NodeGroup || kid == api.NodeBack
	}
	return true
}

func (t *tally) rightGroup(n api.Node) bool {
	if n.Group != t.begun+1 || n.Group > api.MaxGroups || t.nest == api.MaxNest {
		return false
	}
	t.begun++
	t.nest++
	ok := t.rightKids(n)
	t.nest--
	if n.Group <= maxBack {
		t.ended[n.Group] = true
	}
	return ok
}

// isBasic tells whether a right tree's anchors stand where a basic expression can have them. First and last: where in its branch the node stands.
func isBasic(n api.Node, first, last bool) bool {
	switch n.Kind {
	case api.NodeBegin:
		return first
	case api.NodeEnd:
		return last
	}
	for i, k := range n.Kids {
		inCat := n.Kind == api.NodeCat
		if !isBasic(k, !inCat || i == 0, !inCat || i == len(n.Kids)-1) {
			return false
		}
	}
	return true
}
