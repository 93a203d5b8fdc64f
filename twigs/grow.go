package twigs

import (
	"slices"

	"paddock/api"
)

// maxBack is the greatest number of a back-reference.
const maxBack = 9

// number gives the groups of a tree their numbers in order, behind those that have begun, and tells whether each back-reference names one that has ended.
func number(n *api.Node, begun *int, ended map[int]int) bool {
	if n.Kind == api.NodeBack {
		_, ok := ended[n.Group]
		return ok && n.Group <= maxBack
	}
	mine := *begun + 1
	if n.Kind == api.NodeGroup {
		*begun = mine
		n.Group = mine
	}
	for i := range n.Kids {
		if !number(&n.Kids[i], begun, ended) {
			return false
		}
	}
	if n.Kind == api.NodeGroup {
		ended[mine] = mine
	}
	return true
}

// Numbered is a tree of its own whose groups have their numbers; false: a back-reference names none.
func Numbered(n api.Node) (api.Node, bool) {
	n = Clone(n)
	begun := 0
	ok := number(&n, &begun, map[int]int{})
	return n, ok
}

// Trees are all expressions of so many nodes: of these leaves, groups, repeats with these least and greatest numbers of rounds, and pairs one behind another or one of two.
func Trees(size int, leaves []api.Node, bounds [][2]int) []api.Node {
	var out []api.Node
	for _, n := range unnumbered(size, leaves, bounds) {
		if n, ok := Numbered(n); ok {
			out = append(out, n)
		}
	}
	return out
}

func unnumbered(size int, leaves []api.Node, bounds [][2]int) []api.Node {
	if size == 1 {
		return leaves
	}
	var out []api.Node
	for _, k := range unnumbered(size-1, leaves, bounds) {
		out = append(out, Group(0, k))
		for _, b := range bounds {
			out = append(out, Repeat(b[0], b[1], k))
		}
	}
	for first := 1; first < size-1; first++ {
		for _, a := range unnumbered(first, leaves, bounds) {
			for _, b := range unnumbered(size-1-first, leaves, bounds) {
				out = append(out, Cat(a, b), Alt(a, b))
			}
		}
	}
	return out
}

// Grow is an expression of so many nodes at most, over the letters a and b, by a function that tells numbers below one by chance. Backs: it may have back-references.
func Grow(chance func(int) int, size int, backs bool) api.Node {
	n := grow(chance, size, backs)
	begun := 0
	settle(&n, chance, &begun, nil)
	return n
}

func grow(chance func(int) int, size int, backs bool) api.Node {
	if size < 3 || chance(6) == 0 {
		return leaf(chance, backs)
	}
	switch chance(5) {
	case 0, 1:
		return pair(api.NodeCat, chance, size, backs)
	case 2:
		return pair(api.NodeAlt, chance, size, backs)
	case 3:
		return Group(0, grow(chance, size-1, backs))
	}
	least := chance(4) * chance(2)
	most := -1
	if chance(2) == 0 {
		most = least + chance(3)
	}
	return Repeat(least, most, grow(chance, size-1, backs))
}

func pair(kind api.NodeKind, chance func(int) int, size int, backs bool) api.Node {
	n := Leaf(kind)
	for left := size - 1; left > 0 || len(n.Kids) < 2; {
		part := 1 + chance(max(left, 1))
		n.Kids = append(n.Kids, grow(chance, part, backs))
		left -= part
	}
	return n
}

func leaf(chance func(int) int, backs bool) api.Node {
	switch chance(12) {
	case 0:
		return Leaf(api.NodeEmpty)
	case 1:
		return Leaf(api.NodeBegin)
	case 2:
		return Leaf(api.NodeEnd)
	case 3:
		return Of("ab")
	case 4:
		return Of("")
	case 5, 6, 7:
		if backs {
			return Back(1)
		}
	}
	return Of("ab"[chance(2):][:1])
}

// settle gives groups their numbers, and each back-reference that of a group that has ended; one that finds none becomes a set.
func settle(n *api.Node, chance func(int) int, begun *int, ended []int) []int {
	if n.Kind == api.NodeBack {
		if len(ended) == 0 {
			*n = Of("a")
		} else {
			n.Group = ended[chance(len(ended))]
		}
	}
	if n.Kind == api.NodeGroup {
		*begun++
		n.Group = *begun
	}
	for i := range n.Kids {
		ended = settle(&n.Kids[i], chance, begun, ended)
	}
	if n.Kind == api.NodeGroup && n.Group <= maxBack {
		ended = append(ended, n.Group)
	}
	return ended
}

// Text is one of some letters, of so many bytes at most.
func Text(chance func(int) int, letters string, most int) string {
	var out []byte
	for range chance(most + 1) {
		out = append(out, letters[chance(len(letters))])
	}
	return string(out)
}

// Spoil changes one field of one node, by a function that tells numbers below one by chance.
func Spoil(chance func(int) int, n *api.Node) {
	for len(n.Kids) > 0 && chance(3) > 0 {
		n = &n.Kids[chance(len(n.Kids))]
	}
	switch chance(9) {
	case 0:
		n.Kind = api.NodeKind(chance(int(api.NodeCount) + 1))
	case 1:
		n.Set[chance(4)] ^= 1 << chance(64)
	case 2:
		n.Min += chance(3) - 1
	case 3:
		n.Max += chance(3) - 1
	case 4:
		n.Group += chance(3) - 1
	case 5:
		n.Kids = append(slices.Clone(n.Kids), Of("a"))
	case 6:
		n.Kids = n.Kids[:max(0, len(n.Kids)-1)]
	case 7:
		n.Kids = append([]api.Node{Leaf(api.NodeEmpty)}, n.Kids...)
	case 8:
		slices.Reverse(n.Kids)
	}
}
