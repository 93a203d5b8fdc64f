package syntax_test

import (
	"math/rand"

	"paddock/api"
	"paddock/twigs"
)

// Trees for tests, by short names.
var (
	empty, begin, end              = twigs.Leaf(api.NodeEmpty), twigs.Leaf(api.NodeBegin), twigs.Leaf(api.NodeEnd)
	in, of, any, each              = twigs.In, twigs.Of, twigs.Any, twigs.Each
	cat, alt, group, back, repeat  = twigs.Cat, twigs.Alt, twigs.Group, twigs.Back, twigs.Repeat
	same, clone, nest, show, spoil = twigs.Same, twigs.Clone, twigs.Nest, twigs.Show, twigs.Spoil
	blot, roomy, untouched, apart  = twigs.Blot, twigs.Roomy, twigs.Untouched, twigs.Apart
)

// isZero tells whether a tree is the one that stands beside an error.
func isZero(n api.Node) bool { return same(n, api.Node{}) }

// grower makes right trees by chance.
type grower struct {
	*rand.Rand
	begun int
	ended []int
}

func (g *grower) set() api.Node {
	signs := "ab01^$()*+?{}|[]\\.-,_\n\t\x00\xff"
	switch g.Intn(6) {
	case 0:
		return any()
	case 1:
		return in(api.Set{g.Uint64(), g.Uint64() & g.Uint64(), g.Uint64(), g.Uint64()})
	case 2:
		return of(signs[g.Intn(len(signs)-3):])
	case 3:
		return in(api.Set{})
	}
	i := g.Intn(len(signs))
	return of(signs[i : i+1])
}

func (g *grower) expression(size int) api.Node {
	n := 1 + g.Intn(3)*g.Intn(2)
	if n == 1 {
		return g.branch(size)
	}
	var kids []api.Node
	for range n {
		kids = append(kids, g.branch(size/n))
	}
	return alt(kids...)
}

func (g *grower) branch(size int) api.Node {
	n := g.Intn(4)
	if n == 0 {
		return empty
	}
	var kids []api.Node
	for range n {
		kids = append(kids, g.piece(size/n))
	}
	if n == 1 {
		return kids[0]
	}
	return cat(kids...)
}

func (g *grower) piece(size int) api.Node {
	switch g.Intn(12) {
	case 0:
		return begin
	case 1:
		return end
	case 2, 3, 4:
		atom := g.atom(size)
		least := g.Intn(3)
		switch g.Intn(4) {
		case 0:
			return repeat(least, least, atom)
		case 1:
			return repeat(least, least+g.Intn(254), atom)
		}
		return repeat(least, -1, atom)
	}
	return g.atom(size)
}

func (g *grower) atom(size int) api.Node {
	if len(g.ended) > 0 && g.Intn(5) == 0 {
		if i := g.ended[g.Intn(len(g.ended))]; i <= 9 {
			return back(i)
		}
	}
	if size < 1 || g.begun == api.MaxGroups || g.Intn(3) == 0 {
		return g.set()
	}
	g.begun++
	number := g.begun
	n := group(number, g.expression(size-1))
	g.ended = append(g.ended, number)
	return n
}

// grown are right trees, most of them small.
func grown(seed int64, many int) []api.Node {
	var out []api.Node
	for i := range many {
		g := &grower{Rand: rand.New(rand.NewSource(seed + int64(i)))}
		out = append(out, g.expression(i%17))
	}
	return out
}
