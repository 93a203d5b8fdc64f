package posix_test

import (
	"math/rand"
	"slices"
	"testing"

	"paddock/api"
	"paddock/posix"
	"paddock/twigs"
)

// stand is a node in order, and the groups that it lies in.
type stand struct {
	n  api.Node
	in []int
}

func inOrder(n api.Node, in []int) []stand {
	out := []stand{{n, in}}
	if n.Kind == api.NodeGroup {
		in = append(slices.Clone(in), n.Group)
	}
	for _, k := range n.Kids {
		out = append(out, inOrder(k, in)...)
	}
	return out
}

// checked is Check by its words, one after another.
func checked(n api.Node) api.Errno {
	all := inOrder(n, nil)
	if len(all) > 8192 {
		return api.ErrMany
	}
	var groups []int
	for _, s := range all {
		n := s.n
		bare := api.Node{Kind: n.Kind} // the fields that the kind uses
		kids := len(n.Kids) == 0
		ok := true
		switch n.Kind {
		case api.NodeEmpty, api.NodeBegin, api.NodeEnd:
		case api.NodeSet:
			bare.Set = n.Set
		case api.NodeCat, api.NodeAlt:
			kids = len(n.Kids) > 1
		case api.NodeRepeat:
			bare.Min, bare.Max = n.Min, n.Max
			kids = len(n.Kids) == 1
			ok = n.Min >= 0 && n.Min <= 255 && (n.Max == -1 || n.Max >= n.Min && n.Max <= 255)
		case api.NodeGroup:
			bare.Group = n.Group
			kids = len(n.Kids) == 1
			groups = append(groups, n.Group)
			ok = n.Group == len(groups) && n.Group <= 99
		case api.NodeBack:
			bare.Group = n.Group
			ok = n.Group >= 1 && n.Group <= 9 && slices.Contains(groups, n.Group) && !slices.Contains(s.in, n.Group)
		default:
			ok = false
		}
		n.Kids = nil
		if !ok || !kids || !same(n, bare) {
			return api.ErrNode
		}
	}
	return api.OK
}

// 9.1: what is an expression, of each kind; a right tree of chapter 8 has fewer forms.
func TestCheck(t *testing.T) {
	a := of("a")
	for i, n := range []api.Node{
		empty, begin, end, a, in(api.Set{}), twigs.Any(), cat(a, a), cat(empty, empty), cat(a, cat(a, a), alt(a, a), empty), alt(a, alt(a, a)), alt(begin, end, empty),
		repeat(0, -1, a), repeat(0, 0, a), repeat(0, 255, a), repeat(255, 255, a), repeat(255, -1, a), repeat(3, 4, repeat(0, -1, a)), repeat(0, -1, begin), repeat(0, -1, empty), repeat(1, 1, cat(a, a)), repeat(1, 2, alt(a, empty)),
		group(1, a), group(1, group(2, group(3, empty))), cat(group(1, a), group(2, a)), cat(group(1, a), back(1)), alt(group(1, a), back(1)), cat(repeat(0, 0, group(1, a)), back(1)), cat(group(1, cat(group(2, a), back(2))), back(1), back(2)), group(1, cat(group(2, a), repeat(0, -1, back(2)))),
		{Kind: api.NodeEmpty, Kids: []api.Node{}}, {Kind: api.NodeSet, Kids: []api.Node{}}, nest(99, a, group),
	} {
		if why := posix.Check(n); why != api.OK || checked(n) != api.OK {
			t.Errorf("%d: Check(%s) = %d", i, show(n), why)
		}
	}
	for i, n := range []api.Node{
		{}, {Kind: api.NodeCount}, {Kind: 255}, {Kind: api.NodeNone, Kids: []api.Node{a}}, {Kind: api.NodeCount, Kids: []api.Node{a, a}}, cat(), cat(a), alt(), alt(a), cat(a, api.Node{}), alt(api.Node{}, a), repeat(0, -1, cat(a)),
		repeat(-1, -1, a), repeat(-1, 0, a), repeat(0, -2, a), repeat(1, 0, a), repeat(2, 1, a), repeat(256, -1, a), repeat(256, 256, a), repeat(0, 256, a), repeat(255, 254, a), repeat(0, 1<<62, a), repeat(-1<<62, -1, a),
		{Kind: api.NodeRepeat, Max: -1}, {Kind: api.NodeRepeat, Max: -1, Kids: []api.Node{a, a}}, {Kind: api.NodeGroup, Group: 1}, {Kind: api.NodeGroup, Group: 1, Kids: []api.Node{a, a}},
		group(0, a), group(2, a), group(-1, a), group(1, group(1, a)), group(2, group(1, a)), cat(group(2, a), group(1, a)), cat(group(1, a), group(1, a)), cat(group(1, a), group(3, a)),
		back(1), back(0), back(-1), cat(back(1), group(1, a)), alt(back(1), group(1, a)), group(1, back(1)), group(1, cat(group(2, a), back(1))), cat(group(1, a), back(2)), cat(group(1, a), group(2, back(2))), cat(group(1, a), back(0)), cat(group(1, a), back(-1)), cat(group(1, a), back(1<<62)),
	} {
		if why := posix.Check(n); why != api.ErrNode || checked(n) != api.ErrNode {
			t.Errorf("%d: Check(%s) = %d", i, show(n), why)
		}
	}
}

// 9.1: each field that a kind does not use must be zero.
func TestUnused(t *testing.T) {
	a := of("a")
	changes := map[string]func(*api.Node){
		"set": func(n *api.Node) { n.Set[2] = 1 }, "min": func(n *api.Node) { n.Min = 1 }, "max": func(n *api.Node) { n.Max = 1 }, "group": func(n *api.Node) { n.Group = 1 }, "kids": func(n *api.Node) { n.Kids = append(n.Kids, a) },
	}
	for _, n := range []api.Node{empty, begin, end, a, cat(a, a), alt(a, a), repeat(1, 2, a), group(1, a), cat(group(1, a), back(1))} {
		for name, change := range changes {
			spoilt := clone(n)
			at := &spoilt
			if n.Kind == api.NodeCat && n.Kids[1].Kind == api.NodeBack {
				at = &spoilt.Kids[1]
			}
			change(at)
			if why := posix.Check(spoilt); why != checked(spoilt) {
				t.Errorf("%s: Check(%s) = %d", name, show(spoilt), why)
			}
		}
	}
}

// 9.1: grown expressions with some changes, by the words.
func TestSpoilt(t *testing.T) {
	chance := rand.New(rand.NewSource(91))
	count := map[api.Errno]int{}
	for i := range 30000 {
		n := twigs.Grow(chance.Intn, 1+i%12, true)
		for range chance.Intn(3) {
			twigs.Spoil(chance.Intn, &n)
		}
		why := posix.Check(n)
		count[why]++
		if why != checked(n) {
			t.Fatalf("Check(%s) = %d, not %d", show(n), why, checked(n))
		}
		groups, backs := 0, false
		for _, s := range inOrder(n, nil) {
			if s.n.Kind == api.NodeGroup {
				groups++
			}
			backs = backs || s.n.Kind == api.NodeBack
		}
		if posix.Groups(n) != groups || posix.Backs(n) != backs {
			t.Fatalf("%s: %d groups, back-references %v", show(n), posix.Groups(n), posix.Backs(n))
		}
		l, ok, no := posix.Match(n, "ab", 0, false)
		if no != why || why != api.OK && (l != nil || ok) {
			t.Fatalf("Match(%s) = %v, %v, %d", show(n), l, ok, no)
		}
	}
	if count[api.OK] < 5000 || count[api.ErrNode] < 5000 {
		t.Error("too few of one kind:", count)
	}
}

// wide is a node of so many nodes.
func wide(nodes int) api.Node {
	return cat(slices.Repeat([]api.Node{of("a")}, nodes-1)...)
}

// 9.1: MaxNodes, MaxGroups, MaxRepeat and the ninth group, at them and one past them; which error comes first.
func TestCheckLimits(t *testing.T) {
	star := func(_ int, n api.Node) api.Node { return repeat(0, -1, n) }
	odd := api.Node{Kind: 99, Min: 7}
	for i, c := range []struct {
		n    api.Node
		want api.Errno
	}{
		{wide(api.MaxNodes - 1), api.OK}, {wide(api.MaxNodes), api.OK}, {wide(api.MaxNodes + 1), api.ErrMany}, {nest(api.MaxNodes-1, empty, star), api.OK}, {nest(api.MaxNodes, empty, star), api.ErrMany}, {nest(1<<16, empty, star), api.ErrMany},
		{cat(wide(api.MaxNodes-2), odd), api.ErrNode}, {cat(wide(api.MaxNodes-1), odd), api.ErrMany}, {cat(odd, wide(api.MaxNodes-1)), api.ErrMany}, {repeat(7, 3, wide(api.MaxNodes)), api.ErrMany},
		{nest(api.MaxGroups, empty, group), api.OK}, {nest(api.MaxGroups+1, empty, group), api.ErrNode}, {repeat(api.MaxRepeat, api.MaxRepeat, empty), api.OK}, {repeat(api.MaxRepeat, api.MaxRepeat+1, empty), api.ErrNode}, {repeat(api.MaxRepeat+1, -1, empty), api.ErrNode},
	} {
		if why := posix.Check(c.n); why != c.want {
			t.Errorf("%d: %d, not %d", i, why, c.want)
		}
	}
	var many []api.Node
	for i := range api.MaxGroups {
		many = append(many, group(i+1, empty))
	}
	if why := posix.Check(cat(many...)); why != api.OK || posix.Groups(cat(many...)) != api.MaxGroups {
		t.Error("99 groups:", why)
	}
	if why := posix.Check(cat(append(many, group(api.MaxGroups+1, empty))...)); why != api.ErrNode {
		t.Error("100 groups:", why)
	}
	for number := range 102 {
		want := api.ErrNode
		if number >= 1 && number <= 9 {
			want = api.OK
		}
		if why := posix.Check(cat(append(slices.Clip(many), back(number))...)); why != want {
			t.Errorf("back %d: %d", number, why)
		}
	}
}

// P1: a tree that has no end is not gone through to it.
func TestEndless(t *testing.T) {
	kids := []api.Node{of("a"), {}}
	kids[1] = alt(kids...)
	n := cat(kids...)
	if why := posix.Check(n); why != api.ErrMany {
		t.Error("Check:", why)
	}
	if ok, why := posix.Whole(n, "", api.Span{}, false); ok || why != api.ErrMany {
		t.Error("Whole:", ok, why)
	}
	if l, why := posix.All(n, "", false); l != nil || why != api.ErrMany {
		t.Error("All:", l, why)
	}
	kids[0] = api.Node{Kind: api.NodeBack}
	if !posix.Backs(n) {
		t.Error("Backs")
	}
}

// 9.1: Groups and Backs of trees that are no expressions.
func TestCounts(t *testing.T) {
	odd := api.Node{Kind: 200, Kids: []api.Node{group(7, group(7, of("a"))), {Kind: api.NodeSet, Kids: []api.Node{group(0, api.Node{Kind: api.NodeBack, Group: -5})}}, {Kind: api.NodeGroup}}}
	if posix.Groups(odd) != 4 || !posix.Backs(odd) {
		t.Error(posix.Groups(odd), posix.Backs(odd))
	}
	if posix.Groups(api.Node{}) != 0 || posix.Backs(api.Node{}) || posix.Backs(group(1, of("a"))) {
		t.Error("of nothing")
	}
	deep := nest(1<<16, back(3), func(_ int, n api.Node) api.Node { return group(1, n) })
	if posix.Groups(deep) != 1<<16 || !posix.Backs(deep) || !posix.Same(deep, posix.Copy(deep)) {
		t.Error("deep ones")
	}
}

// 9.1: Same, field by field, and Copy.
func TestSame(t *testing.T) {
	n := cat(group(1, repeat(2, 3, of("ab"))), alt(back(1), empty), begin)
	if !posix.Same(n, clone(n)) || !posix.Same(api.Node{}, api.Node{Kids: []api.Node{}}) {
		t.Error("the same")
	}
	for i, change := range []func(n *api.Node){
		func(n *api.Node) { n.Kind++ }, func(n *api.Node) { n.Min++ }, func(n *api.Node) { n.Max-- }, func(n *api.Node) { n.Group++ }, func(n *api.Node) { n.Set[0]++ }, func(n *api.Node) { n.Set[3]++ }, func(n *api.Node) { n.Kids = append(n.Kids, empty) },
	} {
		for _, at := range [][]int{nil, {0}, {0, 0}, {0, 0, 0}, {1, 1}, {2}} {
			other := clone(n)
			place := &other
			for _, k := range at {
				place = &place.Kids[k]
			}
			change(place)
			if posix.Same(n, other) || posix.Same(other, n) {
				t.Errorf("change %d at %v", i, at)
			}
			if c := posix.Copy(other); !same(c, other) || !posix.Same(other, c) {
				t.Errorf("Copy(%s) = %s", show(other), show(c))
			}
		}
	}
}
