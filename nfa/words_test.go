package nfa_test

import (
	"math/rand"
	"slices"

	"paddock/api"
	"paddock/twigs"
)

// Trees for tests, by short names.
var (
	empty, begin, end             = twigs.Leaf(api.NodeEmpty), twigs.Leaf(api.NodeBegin), twigs.Leaf(api.NodeEnd)
	of, each, cat, alt, ere       = twigs.Of, twigs.Each, twigs.Cat, twigs.Alt, twigs.ERE
	group, back, repeat, nest     = twigs.Group, twigs.Back, twigs.Repeat, twigs.Nest
	show, grow, text, numbered    = twigs.Show, twigs.Grow, twigs.Text, twigs.Numbered
	groupsOf, sized               = twigs.Groups, twigs.Sized
	instSet, instMatch, instSplit = api.InstSet, api.InstMatch, api.InstSplit
)

// The words of the chapter, read off one by one.

// code is that of an expression within so many free rounds; a To is told from its own instruction on.
func code(n api.Node, free int) []api.Inst {
	var out []api.Inst
	switch n.Kind {
	case api.NodeSet:
		return []api.Inst{{Kind: api.InstSet, Set: n.Set}}
	case api.NodeBegin:
		return []api.Inst{{Kind: api.InstBegin}}
	case api.NodeEnd:
		return []api.Inst{{Kind: api.InstEnd}}
	case api.NodeBack:
		return []api.Inst{{Kind: api.InstBack, Group: n.Group}}
	case api.NodeCat:
		for _, k := range n.Kids {
			out = append(out, code(k, free)...)
		}
	case api.NodeGroup:
		out = slices.Concat([]api.Inst{{Kind: api.InstOpen, Group: n.Group}}, code(n.Kids[0], free), []api.Inst{{Kind: api.InstClose, Group: n.Group}})
	case api.NodeAlt:
		return oneOf(n.Kids, free)
	case api.NodeRepeat:
		for range n.Min {
			out = append(out, round(n, free)...)
		}
		if n.Max == -1 {
			r := freeRound(n, free)
			return slices.Concat(out, []api.Inst{{Kind: api.InstSplit, To: len(r) + 2}}, r, []api.Inst{{Kind: api.InstJump, To: -1 - len(r)}})
		}
		out = append(out, optional(n, free, n.Max-n.Min)...)
	}
	return out
}

func oneOf(kids []api.Node, free int) []api.Inst {
	first := code(kids[0], free)
	if len(kids) == 1 {
		return first
	}
	rest := oneOf(kids[1:], free)
	return slices.Concat([]api.Inst{{Kind: api.InstSplit, To: len(first) + 2}}, first, []api.Inst{{Kind: api.InstJump, To: len(rest) + 1}}, rest)
}

func round(n api.Node, free int) []api.Inst {
	var out []api.Inst
	if l := groupsOf(n.Kids[0]); len(l) > 0 {
		out = append(out, api.Inst{Kind: api.InstClear, Group: slices.Min(l), Last: slices.Max(l)})
	}
	return append(out, code(n.Kids[0], free)...)
}

func freeRound(n api.Node, free int) []api.Inst {
	return slices.Concat([]api.Inst{{Kind: api.InstMark, Slot: free}}, round(n, free+1), []api.Inst{{Kind: api.InstMoved, Slot: free}})
}

func optional(n api.Node, free, times int) []api.Inst {
	if times == 0 {
		return nil
	}
	r, rest := freeRound(n, free), optional(n, free, times-1)
	return slices.Concat([]api.Inst{{Kind: api.InstSplit, To: 1 + len(r) + len(rest)}}, r, rest)
}

// programOf is the program of an expression.
func programOf(n api.Node) api.Prog {
	p := api.Prog{Groups: len(groupsOf(n)), Code: append(code(n, 0), api.Inst{Kind: api.InstMatch})}
	for i, x := range p.Code {
		if x.Kind == api.InstSplit || x.Kind == api.InstJump {
			p.Code[i].To += i
		}
		if x.Kind == api.InstMark {
			p.Slots = max(p.Slots, x.Slot+1)
		}
	}
	return p
}

func samePrograms(a, b api.Prog) bool {
	return a.Groups == b.Groups && a.Slots == b.Slots && slices.Equal(a.Code, b.Code)
}

// isRight is Right, field by field.
func isRight(p api.Prog) bool {
	if p.Groups < 0 || p.Groups > 99 || p.Slots < 0 || p.Slots > 16384 || len(p.Code) < 1 || len(p.Code) > 16384 {
		return false
	}
	for i, x := range p.Code {
		bare := api.Inst{Kind: x.Kind}
		ok := true
		switch x.Kind {
		case api.InstSet:
			bare.Set = x.Set
		case api.InstSplit, api.InstJump:
			bare.To = x.To
			ok = x.To >= 0 && x.To < len(p.Code)
		case api.InstOpen, api.InstClose, api.InstBack:
			bare.Group = x.Group
			ok = x.Group >= 1 && x.Group <= p.Groups
		case api.InstClear:
			bare.Group, bare.Last = x.Group, x.Last
			ok = x.Group >= 1 && x.Last >= x.Group && x.Last <= p.Groups
		case api.InstMark, api.InstMoved:
			bare.Slot = x.Slot
			ok = x.Slot >= 0 && x.Slot < p.Slots
		case api.InstBegin, api.InstEnd, api.InstMatch:
		default:
			ok = false
		}
		if !ok || x != bare || (x.Kind == api.InstMatch) != (i == len(p.Code)-1) {
			return false
		}
	}
	return true
}

// endsOf are those of runs from a place, one state after another.
func endsOf(p api.Prog, s string, from int) []int {
	type state struct{ inst, at int }
	met := map[state]bool{}
	left := []state{{0, from}}
	var out []int
	for len(left) > 0 {
		x := left[0]
		left = left[1:]
		if met[x] {
			continue
		}
		met[x] = true
		next := state{x.inst + 1, x.at}
		switch i := p.Code[x.inst]; i.Kind {
		case api.InstMatch:
			out = append(out, x.at)
		case api.InstSet:
			if x.at < len(s) && i.Set[s[x.at]/64]>>(s[x.at]%64)&1 == 1 {
				left = append(left, state{x.inst + 1, x.at + 1})
			}
		case api.InstSplit:
			left = append(left, next, state{i.To, x.at})
		case api.InstJump:
			left = append(left, state{i.To, x.at})
		case api.InstBegin:
			if x.at == 0 {
				left = append(left, next)
			}
		case api.InstEnd:
			if x.at == len(s) {
				left = append(left, next)
			}
		default:
			left = append(left, next)
		}
	}
	slices.Sort(out)
	return out
}

// matchOf is Match by the ends.
func matchOf(p api.Prog, s string, from int) (api.Span, bool) {
	for at := from; at <= len(s); at++ {
		if l := endsOf(p, s, at); len(l) > 0 {
			return api.Span{From: at, To: l[len(l)-1]}, true
		}
	}
	return api.Span{}, false
}

// anyProgram is a right one without back-references, made by chance: it goes to and fro as no expression's does.
func anyProgram(chance *rand.Rand, size int) api.Prog {
	p := api.Prog{Groups: 1 + chance.Intn(3), Slots: 1 + chance.Intn(3)}
	for range size {
		var x api.Inst
		switch chance.Intn(12) {
		case 0, 1:
			x = api.Inst{Kind: api.InstSplit, To: chance.Intn(size + 1)}
		case 2:
			x = api.Inst{Kind: api.InstJump, To: chance.Intn(size + 1)}
		case 3:
			x = api.Inst{Kind: api.InstBegin}
		case 4:
			x = api.Inst{Kind: api.InstEnd}
		case 5:
			x = api.Inst{Kind: api.InstOpen, Group: 1 + chance.Intn(p.Groups)}
		case 6:
			x = api.Inst{Kind: api.InstClear, Group: 1, Last: 1 + chance.Intn(p.Groups)}
		case 7:
			x = api.Inst{Kind: []api.InstKind{api.InstMark, api.InstMoved}[chance.Intn(2)], Slot: chance.Intn(p.Slots)}
		case 8:
			x = api.Inst{Kind: api.InstClose, Group: 1 + chance.Intn(p.Groups)}
		default:
			x = api.Inst{Kind: api.InstSet, Set: of([]string{"a", "b", "ab"}[chance.Intn(3)]).Set}
		}
		p.Code = append(p.Code, x)
	}
	p.Code = append(p.Code, api.Inst{Kind: api.InstMatch})
	return p
}
