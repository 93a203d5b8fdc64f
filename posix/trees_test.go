package posix_test

import (
	"paddock/api"
	"paddock/twigs"
)

// Trees for tests, by short names.
var (
	empty, begin, end             = twigs.Leaf(api.NodeEmpty), twigs.Leaf(api.NodeBegin), twigs.Leaf(api.NodeEnd)
	of, in, each, ere             = twigs.Of, twigs.In, twigs.Each, twigs.ERE
	cat, alt, group, back, repeat = twigs.Cat, twigs.Alt, twigs.Group, twigs.Back, twigs.Repeat
	same, clone, nest, show       = twigs.Same, twigs.Clone, twigs.Nest, twigs.Show
	groupsOf, text, texts         = twigs.Groups, twigs.Text, twigs.Texts
)

// huge has rounds within rounds, more than could ever be gone through.
func huge() api.Node {
	return nest(5, of("a"), func(_ int, n api.Node) api.Node { return repeat(255, 255, n) })
}

// beside is an expression that matches just what another one does, and has huge rounds in it that never come.
func beside(n api.Node) api.Node { return cat(n, repeat(0, 0, huge())) }
