package deriv_test

import (
	"fmt"
	"slices"
	"testing"

	"paddock/api"
	"paddock/deriv"
	"paddock/nfa"
	"paddock/twigs"
)

// Trees for tests, by short names.
var (
	empty, begin, end         = twigs.Leaf(api.NodeEmpty), twigs.Leaf(api.NodeBegin), twigs.Leaf(api.NodeEnd)
	of, cat, alt, ere         = twigs.Of, twigs.Cat, twigs.Alt, twigs.ERE
	group, back, repeat, nest = twigs.Group, twigs.Back, twigs.Repeat, twigs.Nest
	show, text, texts, trees  = twigs.Show, twigs.Text, twigs.Texts, twigs.Trees
	numbered, sized           = twigs.Numbered, twigs.Sized
)

// grow is an expression by chance, its anchors made sets.
func grow(chance func(int) int, size int) api.Node {
	n := twigs.Grow(chance, size, false)
	unanchor(&n)
	return n
}

func unanchor(n *api.Node) {
	if n.Kind == api.NodeBegin || n.Kind == api.NodeEnd {
		*n = of("b")
	}
	for i := range n.Kids {
		unanchor(&n.Kids[i])
	}
}

// The words of the chapter, read off one by one.

// words is an expression's program.
type words struct{ code []api.Inst }

func wordsOf(t *testing.T, n api.Node) words {
	t.Helper()
	p, why := nfa.Compile(n)
	if why != api.OK {
		t.Fatalf("%s: error %d", show(n), why)
	}
	return words{p.Code}
}

// stand are the InstSet and InstMatch that are come to from some instructions, rising.
func (w words) stand(from ...int) []int {
	met := make([]bool, len(w.code))
	var go1 func(i int)
	go1 = func(i int) {
		if met[i] {
			return
		}
		met[i] = true
		switch x := w.code[i]; x.Kind {
		case api.InstSet, api.InstMatch:
		case api.InstSplit:
			go1(i + 1)
			go1(x.To)
		case api.InstJump:
			go1(x.To)
		default:
			go1(i + 1)
		}
	}
	for _, i := range from {
		go1(i)
	}
	var out []int
	for i, x := range w.code {
		if met[i] && (x.Kind == api.InstSet || x.Kind == api.InstMatch) {
			out = append(out, i)
		}
	}
	return out
}

// behind is the situation behind a byte that is in one of the sets; any: behind any byte.
func (w words) behind(situation []int, over func(api.Set) bool) []int {
	var out []int
	for _, i := range situation {
		if w.code[i].Kind == api.InstSet && over(w.code[i].Set) {
			out = append(out, i+1)
		}
	}
	return w.stand(out...)
}

func (w words) ends(situation []int) bool { return slices.Contains(situation, len(w.code)-1) }

func has(c int) func(api.Set) bool { return func(s api.Set) bool { return s[c/64]>>(c%64)&1 == 1 } }

func some(s api.Set) bool { return s != api.Set{} }

// firstText is the first text whose pair is such, as pairs are found, byte by byte; how many were found, at most so many.
func firstText(a, b words, most int, such func(a, b bool) bool) (string, bool, int) {
	type found struct {
		a, b []int
		text string
	}
	first := found{a.stand(0), b.stand(0), ""}
	all := []found{first}
	known := map[string]bool{fmt.Sprint(first.a, first.b): true}
	for i := 0; i < len(all) && len(all) <= most; i++ {
		for c := range 256 {
			f := found{a.behind(all[i].a, has(c)), b.behind(all[i].b, has(c)), all[i].text + string([]byte{byte(c)})}
			if name := fmt.Sprint(f.a, f.b); !known[name] && len(f.a)+len(f.b) > 0 {
				known[name] = true
				all = append(all, f)
			}
		}
	}
	for _, f := range all[:min(len(all), most)] {
		if such(a.ends(f.a), b.ends(f.b)) {
			return f.text, true, len(all)
		}
	}
	return "", false, len(all)
}

// lengths are the least and the greatest length (-1: none is), by the lengths of all runs over any bytes, up to twice the program's.
func (w words) lengths() (int, int, bool) {
	least, greatest := -1, -1
	now := w.stand(0)
	for k := range 2*len(w.code) + 1 {
		if w.ends(now) {
			if greatest = k; least < 0 {
				least = k
			}
		}
		now = w.behind(now, some)
	}
	switch {
	case least < 0:
		return 0, 0, false
	case greatest >= len(w.code):
		return least, -1, true
	}
	return least, greatest, true
}

// firsts are the bytes from which runs go on to InstMatch.
func (w words) firsts() api.Set {
	var out api.Set
	for c := range 256 {
		now := w.behind(w.stand(0), has(c))
		for range len(w.code) + 1 {
			if w.ends(now) {
				out[c/64] |= 1 << (c % 64)
			}
			now = w.behind(now, some)
		}
	}
	return out
}

// ahead tells whether a text stands ahead of another in order.
func ahead(a, b string) bool { return len(a) < len(b) || len(a) == len(b) && a < b }

// accepts asks Accepts, which may not fail.
func accepts(t *testing.T, n api.Node, s string) bool {
	t.Helper()
	ok, why := deriv.Accepts(n, s)
	if why != api.OK {
		t.Fatalf("Accepts(%s, %q): error %d", show(n), s, why)
	}
	return ok
}
