package syntax_test

import (
	"fmt"
	"math/rand"
	"strings"

	"paddock/api"
	"paddock/sets"
)

// Trees for tests, by short names.
var (
	empty = api.Node{Kind: api.NodeEmpty}
	begin = api.Node{Kind: api.NodeBegin}
	end   = api.Node{Kind: api.NodeEnd}
)

func in(s api.Set) api.Node         { return api.Node{Kind: api.NodeSet, Set: s} }
func of(bytes string) api.Node      { return in(sets.Of([]byte(bytes))) }
func cat(kids ...api.Node) api.Node { return api.Node{Kind: api.NodeCat, Kids: kids} }
func alt(kids ...api.Node) api.Node { return api.Node{Kind: api.NodeAlt, Kids: kids} }
func group(number int, k api.Node) api.Node {
	return wrap(api.Node{Kind: api.NodeGroup, Group: number}, k)
}
func back(number int) api.Node { return api.Node{Kind: api.NodeBack, Group: number} }

func repeat(least, most int, k api.Node) api.Node {
	return wrap(api.Node{Kind: api.NodeRepeat, Min: least, Max: most}, k)
}

func wrap(n, kid api.Node) api.Node {
	n.Kids = []api.Node{kid}
	return n
}

func any() api.Node { return in(sets.Not(api.Set{})) }

// each is a tree of each byte of a text, one behind another.
func each(s string) api.Node {
	var kids []api.Node
	for i := range len(s) {
		kids = append(kids, of(s[i:i+1]))
	}
	return cat(kids...)
}

// same tells whether all fields are the same; nil and empty lists are alike.
func same(a, b api.Node) bool {
	if a.Kind != b.Kind || a.Set != b.Set || a.Min != b.Min || a.Max != b.Max || a.Group != b.Group || len(a.Kids) != len(b.Kids) {
		return false
	}
	for i := range a.Kids {
		if !same(a.Kids[i], b.Kids[i]) {
			return false
		}
	}
	return true
}

// isZero tells whether a tree is the one that stands beside an error.
func isZero(n api.Node) bool { return same(n, api.Node{}) }

// clone shares no memory with a tree.
func clone(n api.Node) api.Node {
	var kids []api.Node
	for _, k := range n.Kids {
		kids = append(kids, clone(k))
	}
	n.Kids = kids
	return n
}

// nest is a tree of a kind, so deep.
func nest(deep int, inner api.Node, over func(i int, n api.Node) api.Node) api.Node {
	for i := deep; i > 0; i-- {
		inner = over(i, inner)
	}
	return inner
}

// number gives the groups of a tree their numbers from left to right, behind those that there are, and tells whether each back-reference names one that has ended.
func number(n *api.Node, begun *int, ended map[int]bool) bool {
	if n.Kind == api.NodeBack && !ended[n.Group] {
		return false
	}
	if n.Kind == api.NodeGroup {
		*begun++
		n.Group = *begun
		defer func() { ended[n.Group] = true }()
	}
	for i := range n.Kids {
		if !number(&n.Kids[i], begun, ended) {
			return false
		}
	}
	return true
}

// grower makes right trees by chance.
type grower struct {
	*rand.Rand
	begun int
	ended []int
}

func (g *grower) set() api.Node {
	signs := "ab01^$()*+?{}|[]\\.-,_\n\t\x00\xff"
	switch g.Intn(6) {
	case 0:
		return any()
	case 1:
		return in(api.Set{g.Uint64(), g.Uint64() & g.Uint64(), g.Uint64(), g.Uint64()})
	case 2:
		return of(signs[g.Intn(len(signs)-3):])
	case 3:
		return in(api.Set{})
	}
	i := g.Intn(len(signs))
	return of(signs[i : i+1])
}

func (g *grower) expression(size int) api.Node {
	n := 1 + g.Intn(3)*g.Intn(2)
	if n == 1 {
		return g.branch(size)
	}
	var kids []api.Node
	for range n {
		kids = append(kids, g.branch(size/n))
	}
	return alt(kids...)
}

func (g *grower) branch(size int) api.Node {
	n := g.Intn(4)
	if n == 0 {
		return empty
	}
	var kids []api.Node
	for range n {
		kids = append(kids, g.piece(size/n))
	}
	if n == 1 {
		return kids[0]
	}
	return cat(kids...)
}

func (g *grower) piece(size int) api.Node {
	switch g.Intn(12) {
	case 0:
		return begin
	case 1:
		return end
	case 2, 3, 4:
		atom := g.atom(size)
		least := g.Intn(3)
		switch g.Intn(4) {
		case 0:
			return repeat(least, least, atom)
		case 1:
			return repeat(least, least+g.Intn(254), atom)
		}
		return repeat(least, -1, atom)
	}
	return g.atom(size)
}

func (g *grower) atom(size int) api.Node {
	if len(g.ended) > 0 && g.Intn(5) == 0 {
		if i := g.ended[g.Intn(len(g.ended))]; i <= 9 {
			return back(i)
		}
	}
	if size < 1 || g.begun == api.MaxGroups || g.Intn(3) == 0 {
		return g.set()
	}
	g.begun++
	number := g.begun
	n := group(number, g.expression(size-1))
	g.ended = append(g.ended, number)
	return n
}

// grown are right trees, most of them small.
func grown(seed int64, many int) []api.Node {
	var out []api.Node
	for i := range many {
		g := &grower{Rand: rand.New(rand.NewSource(seed + int64(i)))}
		out = append(out, g.expression(i%17))
	}
	return out
}

// show tells a tree for a message.
func show(n api.Node) string {
	var kids []string
	for _, k := range n.Kids {
		kids = append(kids, show(k))
	}
	return fmt.Sprintf("%d:%q:%d:%d:%d(%s)", n.Kind, sets.Print(n.Set), n.Min, n.Max, n.Group, strings.Join(kids, " "))
}
