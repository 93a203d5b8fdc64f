package match_test

import (
	"slices"

	"paddock/api"
	"paddock/nfa"
	"paddock/twigs"
)

// Trees for tests, by short names.
var (
	empty, begin                = twigs.Leaf(api.NodeEmpty), twigs.Leaf(api.NodeBegin)
	of, cat, alt, ere           = twigs.Of, twigs.Cat, twigs.Alt, twigs.ERE
	group, back, repeat, nest   = twigs.Group, twigs.Back, twigs.Repeat, twigs.Nest
	show, grow, text, texts     = twigs.Show, twigs.Grow, twigs.Text, twigs.Texts
	trees, sized, roomy, intact = twigs.Trees, twigs.Sized, twigs.Roomy, twigs.Untouched
)

// The words of the chapter, read off one by one.

// wordSlots is how many slots a program may have here.
const wordSlots = 6

// note is what a situation has beside its instruction and place; a place is told by the number behind it, so that none is 0.
type note struct {
	kept   [10]api.Span
	opened [10]int
	slots  [wordSlots]int
}

type situation struct {
	inst, at int
	note
}

// words is an expression's program over a text.
type words struct {
	code  []api.Inst
	named []int // the groups that back-references name
	text  string
	fold  bool
}

// wordsOf is one; false: its program has more slots than can be told here.
func wordsOf(n api.Node, s string, fold bool) (*words, bool) {
	p, why := nfa.Compile(n)
	return &words{p.Code, namedBy(n), s, fold}, why == api.OK && p.Slots <= wordSlots
}

func namedBy(n api.Node) []int {
	var out []int
	if n.Kind == api.NodeBack {
		out = append(out, n.Group)
	}
	for _, k := range n.Kids {
		out = append(out, namedBy(k)...)
	}
	return out
}

// other is the same letter in the other case; a byte that is no letter is itself.
func other(c byte) byte {
	switch {
	case c >= 'a' && c <= 'z':
		return c - 32
	case c >= 'A' && c <= 'Z':
		return c + 32
	}
	return c
}

func (w *words) in(s api.Set, c byte) bool {
	has := func(c byte) bool { return s[c/64]>>(c%64)&1 == 1 }
	return has(c) || w.fold && has(other(c))
}

func (w *words) sameBytes(a, b string) bool {
	for i := range len(a) {
		if a[i] != b[i] && !(w.fold && a[i] == other(b[i])) {
			return false
		}
	}
	return true
}

// next are the situations to which one goes on.
func (w *words) next(x situation) []situation {
	i := w.code[x.inst]
	on := x
	on.inst++
	to := x
	to.inst = i.To
	kept := func(group int) bool { return slices.Contains(w.named, group) }
	switch i.Kind {
	case api.InstMatch:
		return nil
	case api.InstSet:
		on.at++
		if x.at == len(w.text) || !w.in(i.Set, w.text[x.at]) {
			return nil
		}
	case api.InstSplit:
		return []situation{on, to}
	case api.InstJump:
		return []situation{to}
	case api.InstBegin:
		if x.at != 0 {
			return nil
		}
	case api.InstEnd:
		if x.at != len(w.text) {
			return nil
		}
	case api.InstOpen:
		if kept(i.Group) {
			on.opened[i.Group] = x.at + 1
		}
	case api.InstClose:
		if kept(i.Group) {
			on.kept[i.Group] = api.Span{From: x.opened[i.Group], To: x.at + 1}
		}
	case api.InstClear:
		for g := i.Group; g <= i.Last; g++ {
			if kept(g) {
				on.kept[g], on.opened[g] = api.Span{}, 0
			}
		}
	case api.InstMark:
		if w.named != nil {
			on.slots[i.Slot] = x.at + 1
		}
	case api.InstMoved:
		if w.named != nil && x.slots[i.Slot] == x.at+1 {
			return nil
		}
	case api.InstBack:
		k := x.kept[i.Group]
		on.at += k.To - k.From
		if k.From == 0 || on.at > len(w.text) || !w.sameBytes(w.text[k.From-1:k.To-1], w.text[x.at:on.at]) {
			return nil
		}
	}
	return []situation{on}
}

// from are the steps from a place, and whether it comes to an InstMatch; of more than so many only that they are more.
func (w *words) from(at, most int) (int, bool) {
	first := situation{at: at}
	met := map[situation]bool{first: true}
	left := []situation{first}
	ends := false
	for len(left) > 0 && len(met) <= most {
		x := left[0]
		left = left[1:]
		ends = ends || w.code[x.inst].Kind == api.InstMatch
		for _, y := range w.next(x) {
			if !met[y] {
				met[y] = true
				left = append(left, y)
			}
		}
	}
	return len(met), ends
}

// steps are those of the match from a place on, where it begins (-1: there is none), and whether they are at most so many.
func (w *words) steps(from, most int) (int, int, bool) {
	all := 0
	for at := from; at <= len(w.text); at++ {
		n, ends := w.from(at, most-all)
		if all += n; all > most {
			return 0, 0, false
		}
		if ends {
			return all, at, true
		}
	}
	return all, -1, true
}
