package syntax_test

import (
	"math/rand"
	"slices"
	"testing"

	"paddock/api"
	"paddock/sets"
	"paddock/syntax"
)

// mark is a place where a group begins or ends, or where a back-reference stands, from left to right.
type mark struct {
	what   byte // ( ) or \
	number int
}

func marks(n api.Node) []mark {
	if n.Kind == api.NodeBack {
		return []mark{{'\\', n.Group}}
	}
	var out []mark
	for _, k := range n.Kids {
		out = append(out, marks(k)...)
	}
	if n.Kind == api.NodeGroup {
		out = slices.Concat([]mark{{'(', n.Group}}, out, []mark{{')', n.Group}})
	}
	return out
}

// groupsAreRight reads the words of groups and back-references off the marks.
func groupsAreRight(all []mark) bool {
	next, open := 1, 0
	for i, m := range all {
		switch m.what {
		case '(':
			open++
			if m.number != next || next > 99 || open > 64 {
				return false
			}
			next++
		case ')':
			open--
		default:
			if m.number < 1 || m.number > 9 || !slices.Contains(all[:i], mark{')', m.number}) {
				return false
			}
		}
	}
	return true
}

// nodeIsRight reads the words of each kind, but of groups and back-references, one by one.
func nodeIsRight(n api.Node) bool {
	kinds := func(most int, ok func(api.NodeKind) bool) bool {
		for _, k := range n.Kids {
			if !ok(k.Kind) || !nodeIsRight(k) {
				return false
			}
		}
		return len(n.Kids) >= 1 && (most == 1) == (len(n.Kids) == 1)
	}
	isAny := func(api.NodeKind) bool { return true }
	noSet, noBounds, noGroup, noKids := n.Set == api.Set{}, n.Min == 0 && n.Max == 0, n.Group == 0, len(n.Kids) == 0
	switch n.Kind {
	case api.NodeEmpty, api.NodeBegin, api.NodeEnd:
		return noSet && noBounds && noGroup && noKids
	case api.NodeSet:
		return noBounds && noGroup && noKids
	case api.NodeCat:
		return noSet && noBounds && noGroup && kinds(2, func(k api.NodeKind) bool { return k != api.NodeCat && k != api.NodeAlt && k != api.NodeEmpty })
	case api.NodeAlt:
		return noSet && noBounds && noGroup && kinds(2, func(k api.NodeKind) bool { return k != api.NodeAlt })
	case api.NodeRepeat:
		inRange := n.Min >= 0 && n.Min <= 255 && (n.Max == -1 || n.Max >= n.Min && n.Max <= 255)
		return noSet && noGroup && inRange && kinds(1, func(k api.NodeKind) bool { return k == api.NodeSet || k == api.NodeGroup || k == api.NodeBack })
	case api.NodeGroup:
		return noSet && noBounds && kinds(1, isAny)
	case api.NodeBack:
		return noSet && noBounds && noKids
	}
	return false
}

func isRight(n api.Node) bool { return nodeIsRight(n) && groupsAreRight(marks(n)) }

// P8.2: what is right, and what is not, of each kind.
func TestRight(t *testing.T) {
	a := of("a")
	for i, n := range []api.Node{
		empty, begin, end, a, any(), in(api.Set{}), cat(a, a), cat(begin, end), cat(a, repeat(0, -1, a), group(1, empty), back(1)), alt(empty, empty), alt(a, cat(a, a), empty), alt(group(1, alt(a, a)), back(1)),
		repeat(0, -1, a), repeat(0, 0, a), repeat(255, 255, a), repeat(255, -1, a), repeat(0, 255, a), repeat(2, 3, group(1, a)), cat(group(1, a), repeat(0, 1, back(1))), group(1, empty), group(1, group(2, group(3, a))), group(1, repeat(0, -1, a)), group(1, begin), group(1, alt(a, a)), cat(group(1, cat(group(2, a), back(2))), back(1)),
		{Kind: api.NodeEmpty, Kids: []api.Node{}}, {Kind: api.NodeSet, Kids: []api.Node{}},
	} {
		if !syntax.Right(n) {
			t.Errorf("%d: %s is right", i, show(n))
		}
	}
	for i, n := range []api.Node{
		{}, {Kind: api.NodeCount}, {Kind: 200}, {Kind: 255, Kids: []api.Node{a, a}}, cat(), cat(a), alt(), alt(a), cat(a, cat(a, a)), cat(a, alt(a, a)), cat(a, empty), cat(empty, a), alt(a, alt(a, a)), cat(a, api.Node{}), alt(a, api.Node{}), group(1, api.Node{}), group(1, cat(a)),
		repeat(0, -1, repeat(0, -1, a)), repeat(0, -1, begin), repeat(0, -1, end), repeat(0, -1, empty), repeat(0, -1, cat(a, a)), repeat(0, -1, alt(a, a)), repeat(0, -1, api.Node{}), repeat(-1, -1, a), repeat(-1, 2, a), repeat(0, -2, a), repeat(2, 1, a), repeat(256, -1, a), repeat(256, 256, a), repeat(0, 256, a), repeat(255, 256, a), repeat(1, 0, a),
		{Kind: api.NodeRepeat, Max: -1}, {Kind: api.NodeRepeat, Max: -1, Kids: []api.Node{a, a}}, {Kind: api.NodeGroup, Group: 1}, {Kind: api.NodeGroup, Group: 1, Kids: []api.Node{a, a}},
		group(0, a), group(2, a), group(-1, a), group(1, group(1, a)), group(2, group(1, a)), cat(group(2, a), group(1, a)), cat(group(1, a), group(1, a)), cat(group(1, a), group(3, a)), cat(group(1, group(3, a)), group(2, a)),
		back(1), back(0), back(-1), back(10), cat(back(1), group(1, a)), alt(back(1), group(1, a)), group(1, back(1)), group(1, cat(group(2, a), back(1))), cat(group(1, a), back(2)), cat(group(1, a), group(2, back(2))), cat(group(1, a), back(0)), cat(group(1, a), back(-1)),
	} {
		if syntax.Right(n) {
			t.Errorf("%d: %s is not right", i, show(n))
		}
		if s, why := syntax.Print(n, i%2 == 0); s != "" || why != api.ErrNode {
			t.Errorf("%d: Print(%s) = %q, %d", i, show(n), s, why)
		}
	}
}

// P8.2: each field that a kind does not use must be zero.
func TestUnused(t *testing.T) {
	a := of("a")
	set := func(n *api.Node) { n.Set = api.Set{0, 0, 0, 1} }
	least := func(n *api.Node) { n.Min = 1 }
	most := func(n *api.Node) { n.Max = -1 }
	number := func(n *api.Node) { n.Group = 1 }
	kids := func(n *api.Node) { n.Kids = []api.Node{a} }
	for i, c := range []struct {
		n      api.Node
		unused []func(*api.Node)
	}{
		{empty, []func(*api.Node){set, least, most, number, kids}}, {begin, []func(*api.Node){set, least, most, number, kids}}, {end, []func(*api.Node){set, least, most, number, kids}}, {a, []func(*api.Node){least, most, number, kids}},
		{cat(a, a), []func(*api.Node){set, least, most, number}}, {alt(a, a), []func(*api.Node){set, least, most, number}}, {repeat(1, 2, a), []func(*api.Node){set, number}}, {group(2, a), []func(*api.Node){set, least, most}}, {back(1), []func(*api.Node){set, least, most, kids}},
	} {
		// Behind a group, so that one can be named; alone in a branch, where any kind may stand.
		around := func(n api.Node) api.Node { return alt(group(1, a), n) }
		if c.n.Kind == api.NodeAlt {
			around = func(n api.Node) api.Node { return n }
		}
		if !syntax.Right(around(c.n)) {
			t.Fatalf("%d: %s is right", i, show(c.n))
		}
		for j, change := range c.unused {
			n := clone(c.n)
			change(&n)
			if syntax.Right(around(n)) {
				t.Errorf("%d, %d: %s is not right", i, j, show(n))
			}
		}
	}
}

// P8.2: MaxGroups, MaxNest and the ninth group, at them and one past them.
func TestRightLimits(t *testing.T) {
	flat := func(n int) api.Node {
		var kids []api.Node
		for i := range n {
			kids = append(kids, group(i+1, empty))
		}
		return cat(kids...)
	}
	for n, want := range map[int]bool{api.MaxGroups - 1: true, api.MaxGroups: true, api.MaxGroups + 1: false} {
		if syntax.Right(flat(n)) != want {
			t.Errorf("%d groups", n)
		}
	}
	for n, want := range map[int]bool{api.MaxNest - 1: true, api.MaxNest: true, api.MaxNest + 1: false, 1 << 16: false} {
		if syntax.Right(nest(n, of("a"), group)) != want {
			t.Errorf("%d groups within one another", n)
		}
	}
	for number := range 12 {
		n := flat(12)
		n.Kids = append(n.Kids, back(number))
		if syntax.Right(n) != (number >= 1 && number <= 9) {
			t.Errorf("back %d", number)
		}
	}
}

// P1, P8.2, P8.3, P8.8: grown trees with some changes: Right by the words, and nothing panics; what is right is written and read.
func TestSpoilt(t *testing.T) {
	chance := rand.New(rand.NewSource(82))
	count := map[bool]int{}
	for _, n := range grown(82, 8000) {
		n = clone(n)
		for range 1 + chance.Intn(3) {
			spoil(chance.Intn, &n)
		}
		right := syntax.Right(n)
		count[right]++
		if right != isRight(n) {
			t.Fatalf("Right(%s) = %v", show(n), right)
		}
		s, why := syntax.Print(n, extended)
		if (why == api.ErrNode) == right {
			t.Fatalf("Print(%s) = %q, %d", show(n), s, why)
		}
		if f := syntax.Fold(n); syntax.Right(f) != right {
			t.Fatalf("Fold of %s is %s", show(n), show(f))
		}
	}
	if count[true] < 500 || count[false] < 500 {
		t.Error("too few of one kind:", count)
	}
}

// folded is Fold by its words.
func folded(n api.Node) api.Node {
	if n.Kind == api.NodeSet {
		n.Set = sets.Fold(n.Set)
	}
	kids := slices.Clone(n.Kids)
	for i := range kids {
		kids[i] = folded(kids[i])
	}
	n.Kids = kids
	return n
}

// P8.4, P8.8: Fold of right trees, and of others.
func TestFold(t *testing.T) {
	odd := api.Node{Kind: api.NodeSet, Set: sets.Of([]byte("k")), Min: 7, Max: -3, Group: 12, Kids: []api.Node{of("q"), {Kind: 99, Set: sets.Of([]byte("z")), Kids: []api.Node{of("z")}}}}
	all := append(grown(84, 1000), odd, api.Node{}, cat(of("a")), api.Node{Kind: api.NodeBack, Set: sets.Of([]byte("a"))}, nest(1<<16, of("a"), func(i int, n api.Node) api.Node { return repeat(i, -1, n) }))
	for _, n := range all {
		f := syntax.Fold(n)
		if !same(f, folded(n)) {
			t.Fatalf("Fold(%s) = %s", show(n), show(f))
		}
		if !same(syntax.Fold(f), f) || syntax.Right(f) != syntax.Right(n) {
			t.Fatalf("P8.8: Fold(%s) = %s", show(n), show(f))
		}
	}
	if !same(syntax.Fold(of("a")), of("Aa")) || !same(syntax.Fold(of("1_")), of("1_")) {
		t.Error("Fold of a letter")
	}
	if f := syntax.Fold(odd); f.Kids[1].Set != sets.Of([]byte("z")) || f.Kids[1].Kids[0].Set != sets.Of([]byte("Zz")) {
		t.Error("only a NodeSet's Set:", show(f))
	}
}

// P8.5: answers share nothing with what was handed in, with one another, or within themselves.
func TestNewMemory(t *testing.T) {
	for _, n := range grown(85, 1500) {
		given := roomy(n)
		f := syntax.Fold(given)
		s, why := syntax.Print(given, extended)
		right := syntax.Right(given)
		if !same(given, n) || !untouched(given) || !right {
			t.Fatalf("%s was changed", show(n))
		}
		if !apart(f) {
			t.Fatalf("Fold(%s) shares memory within", show(n))
		}
		blot(given)
		if !same(f, folded(n)) {
			t.Fatalf("Fold(%s) shares memory with it", show(n))
		}
		if why != api.OK {
			continue
		}
		one, _, _ := syntax.Parse(s, extended)
		other, _, _ := syntax.Parse(s, extended)
		if !apart(one) {
			t.Fatalf("Parse(%q) shares memory within", s)
		}
		blot(one)
		if again, _, _ := syntax.Parse(s, extended); !same(other, n) || !same(again, n) {
			t.Fatalf("Parse(%q) shares memory with an earlier answer", s)
		}
	}
}
