package posix

import (
	"paddock/api"
	"paddock/sets"
)

// part is a node of an expression that is tried.
type part struct {
	number      int
	kind        api.NodeKind
	set         api.Set
	least, most int // rounds
	group       int
	within      [2]int  // the first group within, and the one behind the last one
	kids        []*part // of a repeat: the kid, again for each round that is told apart
	parent      *part
	index       int  // among the parent's kids
	shortest    int  // the bytes that it takes at least
	apart       bool // a repeat whose rounds are too many to be laid out
	plain       bool // nothing within is a back-reference or a group that one names: what is kept makes no difference to it, and what it keeps none to others
}

// hasGroups tells whether there is something to keep within.
func (p *part) hasGroups() bool { return p.within[0] < p.within[1] }

// count is a number of rounds, as far as it matters.
func (p *part) count(rounds int) int {
	if p.most == -1 {
		return min(rounds, p.least)
	}
	return rounds
}

// maxParts is how many parts an expression's rounds are laid out to.
const maxParts = 1 << 15

// builder makes parts of nodes.
type builder struct {
	fold   bool
	apart  bool // all rounds together are too many
	named  [maxBack + 1]bool
	parts  int
	groups int
}

func newBuilder(n *api.Node, fold bool) *builder {
	b := &builder{fold: fold, apart: laidOut(n) > maxParts}
	for k := range nodes(n) {
		if k.Kind == api.NodeBack {
			b.named[k.Group] = true
		}
	}
	return b
}

// laidOut is how many parts a node would have, rounds and all; of too many it tells only that.
func laidOut(n *api.Node) int {
	size := 0
	for i := range n.Kids {
		size += laidOut(&n.Kids[i])
	}
	if n.Kind == api.NodeRepeat {
		size *= rounds(n)
	}
	return min(size+1, maxParts+1)
}

// rounds is how many rounds of a repeat are told apart; one that may come any number of times stands for all behind it.
func rounds(n *api.Node) int { return max(n.Min, n.Max, 1) }

func (b *builder) build(n *api.Node) *part {
	p := &part{number: b.parts, kind: n.Kind, set: n.Set, least: n.Min, most: n.Max, group: n.Group, plain: n.Kind != api.NodeBack}
	b.parts++
	if b.fold {
		p.set = sets.Fold(n.Set)
	}
	p.within[0] = b.groups + 1
	if n.Kind == api.NodeGroup {
		b.groups++
		p.plain = n.Group > maxBack || !b.named[n.Group]
	}
	for i := range n.Kids {
		b.add(p, &n.Kids[i])
	}
	p.within[1] = b.groups + 1
	p.shortest = min(p.takes(), tooLong)
	if n.Kind == api.NodeRepeat && rounds(n) > 1 {
		b.layOut(p, n)
	}
	return p
}

// tooLong is more bytes than any text has: what takes more is told as this.
const tooLong = 1 << 40

// takes is how many bytes a part takes at least, of kids that are built.
func (p *part) takes() int {
	all, least := 0, tooLong
	for _, k := range p.kids {
		all += k.shortest
		least = min(least, k.shortest)
	}
	switch p.kind {
	case api.NodeSet:
		return 1
	case api.NodeAlt:
		return least
	case api.NodeRepeat:
		return all * p.least
	}
	return all
}

func (b *builder) add(p *part, kid *api.Node) {
	k := b.build(kid)
	k.parent, k.index = p, len(p.kids)
	p.kids = append(p.kids, k)
	p.plain = p.plain && k.plain
}

// layOut adds the kid of a repeat for each further round: with the groups that it has in the first one.
func (b *builder) layOut(p *part, n *api.Node) {
	if b.apart {
		p.apart = true
		return
	}
	for range rounds(n) - 1 {
		b.groups = p.within[0] - 1
		b.add(p, &n.Kids[0])
	}
}
