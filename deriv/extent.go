package deriv

import "paddock/api"

// endless is a greatest length of which there is none.
const endless = -1

// extent is what is known of the texts that an expression matches: whether there are some, and then their least and greatest length, and their first bytes.
type extent struct {
	some            bool
	least, greatest int
	first           api.Set
}

// extentOf tells it of a tree from its kids'. The lengths of an expression whose program is not too great are not great either; what lies in rounds of which none may be can be of any size, and is not looked at.
func extentOf(n *api.Node) extent {
	switch n.Kind {
	case api.NodeSet:
		if n.Set == (api.Set{}) {
			return extent{}
		}
		return extent{true, 1, 1, n.Set}
	case api.NodeGroup:
		return extentOf(&n.Kids[0])
	case api.NodeAlt:
		return oneOf(n.Kids)
	case api.NodeCat:
		return row(n.Kids)
	case api.NodeRepeat:
		return rounds(n)
	}
	return extent{some: true}
}

func oneOf(kids []api.Node) extent {
	var all extent
	for i := range kids {
		k := extentOf(&kids[i])
		switch {
		case !all.some:
			all = k
		case k.some:
			all = extent{true, min(all.least, k.least), greater(all.greatest, k.greatest), or(all.first, k.first)}
		}
	}
	return all
}

func row(kids []api.Node) extent {
	all := extent{some: true}
	for i := range kids {
		k := extentOf(&kids[i])
		if !k.some {
			return extent{}
		}
		if all.least == 0 {
			all.first = or(all.first, k.first)
		}
		all.least += k.least
		all.greatest = sum(all.greatest, k.greatest)
	}
	return all
}

func rounds(n *api.Node) extent {
	if n.Max == 0 {
		return extent{some: true}
	}
	k := extentOf(&n.Kids[0])
	if !k.some {
		return extent{some: n.Min == 0}
	}
	k.least *= n.Min
	if k.greatest == endless || n.Max == -1 && k.greatest > 0 {
		k.greatest = endless
	} else {
		k.greatest *= max(n.Max, 0)
	}
	return k
}

func greater(a, b int) int {
	if a == endless || b == endless {
		return endless
	}
	return max(a, b)
}

func sum(a, b int) int {
	if a == endless || b == endless {
		return endless
	}
	return a + b
}

func or(a, b api.Set) api.Set {
	for i := range a {
		a[i] |= b[i]
	}
	return a
}
