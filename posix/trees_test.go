package posix_test

import (
	"testing"

	"paddock/api"
	"paddock/syntax"
	"paddock/twigs"
)

// Trees for tests, by short names.
var (
	empty, begin, end             = twigs.Leaf(api.NodeEmpty), twigs.Leaf(api.NodeBegin), twigs.Leaf(api.NodeEnd)
	of, in, each                  = twigs.Of, twigs.In, twigs.Each
	cat, alt, group, back, repeat = twigs.Cat, twigs.Alt, twigs.Group, twigs.Back, twigs.Repeat
	same, clone, nest, show       = twigs.Same, twigs.Clone, twigs.Nest, twigs.Show
	groupsOf, text                = twigs.Groups, twigs.Text
)

// ere is the tree of an extended expression.
func ere(t *testing.T, s string) api.Node {
	t.Helper()
	n, why, at := syntax.Parse(s, true)
	if why != api.OK {
		t.Fatalf("%q: error %d at %d", s, why, at)
	}
	return n
}

// huge has rounds within rounds, more than could ever be gone through.
func huge() api.Node {
	return nest(5, of("a"), func(_ int, n api.Node) api.Node { return repeat(255, 255, n) })
}

// beside is an expression that matches just what another one does, and has huge rounds in it that never come.
func beside(n api.Node) api.Node { return cat(n, repeat(0, 0, huge())) }
