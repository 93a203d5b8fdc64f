package syntax_test

import (
	"regexp"
	"slices"
	"strconv"
	"strings"
	"testing"

	"paddock/api"
	"paddock/sets"
	"paddock/syntax"
	"paddock/twigs"
)

// grammar is an expression's text as the words take it apart: every way to part it is tried, and no way is looked ahead for.
type grammar struct {
	s     string
	ext   bool
	known map[[3]int][][]api.Node // the pieces of branches, by where these begin, where they stand, and where they end
}

func (g grammar) mark(s string) string {
	if g.ext {
		return s
	}
	return "\\" + s
}

// trees are all trees of a text (the words are such that there is one at most).
func trees(s string, ext bool) []api.Node {
	g := grammar{s, ext, map[[3]int][][]api.Node{}}
	var out []api.Node
	for _, n := range g.expression(0, len(s)) {
		if n, ok := twigs.Numbered(n); ok {
			out = append(out, n)
		}
	}
	return out
}

func (g grammar) expression(i, j int) []api.Node {
	var out []api.Node
	for _, l := range g.branches(i, j) {
		if len(l) == 1 {
			out = append(out, l[0])
		} else {
			out = append(out, alt(l...))
		}
	}
	return out
}

func (g grammar) branches(i, j int) [][]api.Node {
	var out [][]api.Node
	for _, b := range g.branch(i, j) {
		out = append(out, []api.Node{b})
	}
	bar := g.mark("|")
	for k := i; k < j; k++ {
		if !strings.HasPrefix(g.s[k:j], bar) {
			continue
		}
		for _, b := range g.branch(i, k) {
			for _, rest := range g.branches(k+len(bar), j) {
				out = append(out, append([]api.Node{b}, rest...))
			}
		}
	}
	return out
}

func (g grammar) branch(i, j int) []api.Node {
	var out []api.Node
	for _, l := range g.pieces(i, i, j) {
		switch len(l) {
		case 0:
			out = append(out, empty)
		case 1:
			out = append(out, l[0])
		default:
			out = append(out, cat(l...))
		}
	}
	return out
}

// pieces are those from k to j of a branch from i to j.
func (g grammar) pieces(i, k, j int) [][]api.Node {
	if k == j {
		return [][]api.Node{nil}
	}
	if l, ok := g.known[[3]int{i, k, j}]; ok {
		return l
	}
	var out [][]api.Node
	for e := k + 1; e <= j; e++ {
		for _, p := range g.piece(i, k, e, j) {
			for _, rest := range g.pieces(i, e, j) {
				out = append(out, append([]api.Node{p}, rest...))
			}
		}
	}
	g.known[[3]int{i, k, j}] = out
	return out
}

func (g grammar) piece(i, k, e, j int) []api.Node {
	var out []api.Node
	if g.s[k:e] == "^" && (g.ext || k == i) {
		out = append(out, begin)
	}
	if g.s[k:e] == "$" && (g.ext || e == j) {
		out = append(out, end)
	}
	for m := k + 1; m <= e; m++ {
		least, most, ok := g.repeat(g.s[m:e])
		if m < e && !ok {
			continue
		}
		for _, a := range g.atom(i, k, m, j) {
			if m < e {
				a = repeat(least, most, a)
			}
			out = append(out, a)
		}
	}
	return out
}

var interval = regexp.MustCompile(`^([0-9]+)(,?)([0-9]*)$`)

func (g grammar) repeat(s string) (int, int, bool) {
	switch s {
	case "*":
		return 0, -1, true
	case g.mark("+"):
		return 1, -1, true
	case g.mark("?"):
		return 0, 1, true
	}
	inner, ok := strings.CutPrefix(s, g.mark("{"))
	inner, also := strings.CutSuffix(inner, g.mark("}"))
	m := interval.FindStringSubmatch(inner)
	if !ok || !also || m == nil || m[2] == "" && m[3] != "" {
		return 0, 0, false
	}
	least, _ := strconv.Atoi(m[1])
	most := least
	if m[2] != "" {
		most = -1
	}
	if m[3] != "" {
		most, _ = strconv.Atoi(m[3])
	}
	return least, most, least <= 255 && most <= 255 && (most == -1 || most >= least)
}

// atom is that from k to m of a branch from i to j.
func (g grammar) atom(i, k, m, j int) []api.Node {
	t := g.s[k:m]
	open, shut := g.mark("("), g.mark(")")
	var out []api.Node
	if strings.HasPrefix(t, open) && strings.HasSuffix(t[len(open):], shut) {
		for _, n := range g.expression(k+len(open), m-len(shut)) {
			out = append(out, group(0, n))
		}
	}
	if t[0] == '[' {
		if set, n, why, _ := sets.Bracket(t[1:]); why == api.OK && n == len(t)-1 {
			out = append(out, in(set))
		}
	}
	if t == "." {
		out = append(out, any())
	}
	if len(t) == 2 && t[0] == '\\' {
		out = append(out, g.escape(t[1])...)
	}
	if len(t) == 1 && g.isByte(i, k, j) {
		out = append(out, of(t))
	}
	return out
}

func (g grammar) isByte(i, k, j int) bool {
	c := g.s[k]
	if g.ext {
		return strings.IndexByte("^$()*+?{|[\\.", c) < 0
	}
	switch c {
	case '[', '\\', '.':
		return false
	case '*':
		return k == i || k == i+1 && g.s[i] == '^'
	case '^':
		return k != i
	case '$':
		return k+1 != j
	}
	return true
}

func (g grammar) escape(c byte) []api.Node {
	word := sets.Or(class("alnum"), sets.Of([]byte("_")))
	switch {
	case c == 'n':
		return []api.Node{of("\n")}
	case c == 't':
		return []api.Node{of("\t")}
	case c == 'w':
		return []api.Node{in(word)}
	case c == 'W':
		return []api.Node{in(sets.Not(word))}
	case c == 's':
		return []api.Node{in(class("space"))}
	case c == 'S':
		return []api.Node{in(sets.Not(class("space")))}
	case c >= '1' && c <= '9':
		return []api.Node{back(int(c - '0'))}
	case sets.Has(class("alnum"), c) || !g.ext && strings.IndexByte("(){}|+?", c) >= 0:
		return nil
	}
	return []api.Node{of(string([]byte{c}))}
}

var falling = regexp.MustCompile(`{([0-9]+),([0-9]+)$`)

// goesOn tells whether some expression begins with a text: whether one of the ways to end it makes one. Numbers that fall go on too: the words tell their fault behind them.
func goesOn(s string, ext bool) bool {
	if m := falling.FindStringSubmatch(s); m != nil {
		least, _ := strconv.Atoi(m[1])
		if most, _ := strconv.Atoi(m[2]); most < least {
			return true
		}
	}
	g := grammar{s: s, ext: ext}
	shut := g.mark(")")
	ways := []string{"", "n", "}", "1" + g.mark("}"), g.mark("}")}
	for groups := range 1 + strings.Count(s, "(") {
		for _, w := range ways {
			if len(trees(s+w+strings.Repeat(shut, groups), ext)) > 0 {
				return true
			}
		}
	}
	return false
}

// walk goes through all texts of up to so many pieces. At: the first byte with which no expression goes on (-1: none so far).
func walk(t *testing.T, s string, at int, pieces []string, left int, ext bool) {
	n, why, place := syntax.Parse(s, ext)
	if at < 0 {
		want := trees(s, ext)
		if len(want) > 1 {
			t.Fatalf("%q has %d trees", s, len(want))
		}
		if len(want) == 1 && (why != api.OK || place != 0 || !same(n, want[0])) {
			t.Fatalf("Parse(%q, %v) = %s, %d, %d, not %s", s, ext, show(n), why, place, show(want[0]))
		}
		if len(want) == 0 && (why != api.ErrSyntax || place != len(s) || !isZero(n)) {
			t.Fatalf("Parse(%q, %v) = %s, %d, %d: it ends too early", s, ext, show(n), why, place)
		}
	} else if why != api.ErrSyntax || place != at || !isZero(n) {
		t.Fatalf("Parse(%q, %v) = %s, %d, %d: no expression goes on at %d", s, ext, show(n), why, place, at)
	}
	if left == 0 {
		return
	}
	for _, p := range pieces {
		next, wrong := s, at
		for i := range len(p) {
			next += p[i : i+1]
			if wrong < 0 && !goesOn(next, ext) {
				wrong = len(next) - 1
			}
		}
		walk(t, next, wrong, pieces, left-1, ext)
	}
}

// P8.1: all short texts of some pieces: what is an expression has its tree, what is none the first byte with which none goes on.
func TestByGrammar(t *testing.T) {
	for _, c := range []struct {
		ext    bool
		pieces string
		most   int
	}{
		{extended, "a ( ) | * \\ 1", 5}, {extended, "a ^ $ * ( ) |", 5}, {extended, "a { } , 1 2", 6}, {extended, "a{ } , 3 25 6", 5}, {extended, "\\ n { } . + ? x", 4}, {extended, "() (a \\1 \\2 ) | *", 5},
		{basic, "a \\ ( ) | * 1", 5}, {basic, "^ $ * a \\| \\( \\)", 5}, {basic, "a \\ { } , 1 2", 5}, {basic, "a\\{ \\} , 3 25 6 }", 5}, {basic, "\\ n { } . + ? x", 4}, {basic, "\\(\\) \\(a \\1 \\2 \\) \\| *", 4}, {basic, "$ * \\+ \\{1\\} \\) ^", 5},
	} {
		t.Run(c.pieces, func(t *testing.T) {
			t.Parallel()
			walk(t, "", -1, strings.Fields(c.pieces), c.most, c.ext)
		})
	}
}

// P8.1: brackets among other things: the tree, or the place that sets.Bracket tells.
func TestBracketsByGrammar(t *testing.T) {
	pieces := strings.Fields("[ ] ^ a - * ( \\) [:digit:] [:x:] [. .]")
	var grow func(s string, left int)
	grow = func(s string, left int) {
		for _, ext := range []bool{basic, extended} {
			for _, ahead := range []string{"", "x", "[y]*", grammar{ext: ext}.mark("(")} {
				n, why, at := syntax.Parse(ahead+"["+s, ext)
				set, size, no, place := sets.Bracket(s)
				if no != api.OK && (why != api.ErrSyntax || at != len(ahead)+1+place || !isZero(n)) {
					t.Fatalf("%q: %d, %d, not at %d", ahead+"["+s, why, at, len(ahead)+1+place)
				}
				if no == api.OK && size == len(s) && ahead == "x" && (why != api.OK || !same(n, cat(of("x"), in(set)))) {
					t.Fatalf("%q: %s, %d, %d", ahead+"["+s, show(n), why, at)
				}
				if want := trees(ahead+"["+s, ext); (len(want) == 1) != (why == api.OK) || len(want) == 1 && !same(n, want[0]) {
					t.Fatalf("%q: %s, %d, %d, %d trees", ahead+"["+s, show(n), why, at, len(want))
				}
			}
		}
		for _, p := range pieces {
			if left > 0 {
				grow(s+p, left-1)
			}
		}
	}
	grow("", 3)
}

// P8.7: of a tree that has both an extended and a basic expression, each is read as it; the words' own trees are these.
func TestBothKinds(t *testing.T) {
	var all []string
	for _, n := range grown(87, 3000) {
		for _, ext := range []bool{basic, extended} {
			if s, why := syntax.Print(n, ext); why == api.OK && len(s) <= 12 {
				if want := trees(s, ext); len(want) != 1 || !same(want[0], n) {
					t.Fatalf("%q of %s has %d trees", s, show(n), len(want))
				}
				all = append(all, s)
			}
		}
	}
	if slices.Sort(all); len(slices.Compact(all)) < 300 {
		t.Error("only a few:", len(all))
	}
}
