package posix_test

import (
	"math/rand"
	"slices"
	"testing"

	"paddock/api"
	"paddock/posix"
	"paddock/twigs"
)

func whole(n api.Node, s string) bool {
	ok, _ := posix.Whole(n, s, api.Span{From: 0, To: len(s)}, false)
	return ok
}

// byItself is a node below others as an expression of its own.
func byItself(n api.Node) api.Node {
	n, _ = twigs.Numbered(n)
	return n
}

// find is the group of a number.
func find(n api.Node, number int) api.Node {
	for _, s := range inOrder(n, nil) {
		if s.n.Kind == api.NodeGroup && s.n.Group == number {
			return s.n
		}
	}
	return api.Node{}
}

// 9.6, 9.7: Match by Whole; groups within the match, and what they keep their kids match.
func TestLeftmostLongest(t *testing.T) {
	chance := rand.New(rand.NewSource(96))
	kept := 0
	for i := range 6000 {
		backs := i%3 == 0
		n := twigs.Grow(chance.Intn, 3+i%16, backs)
		s := text(chance.Intn, "ab", 12)
		from := chance.Intn(len(s) + 1)
		l, ok, why := posix.Match(n, s, from, false)
		first := api.Span{From: len(s) + 1}
		for at := from; at <= len(s) && first.From > len(s); at++ {
			for to := at; to <= len(s); to++ {
				if ok, _ := posix.Whole(n, s, api.Span{From: at, To: to}, false); ok {
					first = api.Span{From: at, To: to}
				}
			}
		}
		if why != api.OK || ok != (first.From <= len(s)) || ok && l[0] != first {
			t.Fatalf("9.6: Match(%s, %q, %d) = %v, %v, not %v", show(n), s, from, l, ok, first)
		}
		if !ok {
			continue
		}
		if len(l) != 1+posix.Groups(n) {
			t.Fatalf("9.3: Match(%s, %q) = %v", show(n), s, l)
		}
		for g, span := range l[1:] {
			if span == (api.Span{From: -1, To: -1}) {
				continue
			}
			kept++
			if span.From < l[0].From || span.To > l[0].To || span.From > span.To {
				t.Fatalf("9.7: Match(%s, %q) = %v", show(n), s, l)
			}
			if matches, _ := posix.Whole(byItself(find(n, g+1).Kids[0]), s, span, false); !backs && !matches {
				t.Fatalf("9.7: Match(%s, %q) = %v: the group %d", show(n), s, l, g+1)
			}
		}
	}
	if kept < 500 {
		t.Error("only a few groups:", kept)
	}
}

// parted tells whether a text is made of pieces, the first ones of which are of the kinds told; the last kind may come any number of times, if again says so.
func parted(s string, kids []api.Node, again bool) bool {
	if len(kids) == 0 {
		return s == ""
	}
	for cut := range len(s) + 1 {
		if !whole(kids[0], s[:cut]) {
			continue
		}
		if parted(s[cut:], kids[1:], again) || again && cut > 0 && parted(s[cut:], kids, again) {
			return true
		}
	}
	return false
}

// plain is an expression without anchors, which look beyond the bytes that are asked for.
func plain(n api.Node) api.Node {
	if n.Kind == api.NodeBegin || n.Kind == api.NodeEnd {
		return of("b")
	}
	n.Kids = slices.Clone(n.Kids)
	for i, k := range n.Kids {
		n.Kids[i] = plain(k)
	}
	return n
}

// 9.8: an Alt, a Cat and a Repeat by what their kids match.
func TestParts(t *testing.T) {
	chance := rand.New(rand.NewSource(98))
	for i := range 1500 {
		var kids []api.Node
		for range 2 + i%2 {
			kids = append(kids, byItself(plain(twigs.Grow(chance.Intn, 1+i%9, false))))
		}
		either, row, star := byItself(alt(kids...)), byItself(cat(kids...)), byItself(repeat(0, -1, kids[0]))
		for _, s := range texts("ab", 4) {
			any := slices.ContainsFunc(kids, func(k api.Node) bool { return whole(k, s) })
			if whole(either, s) != any {
				t.Fatalf("9.8: %s, %q", show(either), s)
			}
			if whole(row, s) != parted(s, kids, false) {
				t.Fatalf("9.8: %s, %q", show(row), s)
			}
			if whole(star, s) != (s == "" || parted(s, kids[:1], true)) {
				t.Fatalf("9.8: %s, %q", show(star), s)
			}
		}
	}
}

// 9.5: answers are new memory, and what is handed in stays.
func TestNewMemory(t *testing.T) {
	chance := rand.New(rand.NewSource(95))
	for i := range 1500 {
		n := twigs.Grow(chance.Intn, 2+i%14, true)
		s := text(chance.Intn, "ab", 8)
		given := twigs.Roomy(n)
		c := posix.Copy(given)
		l, ok, _ := posix.Match(given, s, 0, i%2 == 0)
		all, _ := posix.All(given, s, i%2 == 0)
		posix.Whole(given, s, api.Span{From: 0, To: len(s)}, true)
		if posix.Check(given) != api.OK || !posix.Same(given, n) || posix.Groups(given) != posix.Groups(n) || posix.Backs(given) != posix.Backs(n) {
			t.Fatalf("%s is not what it was", show(n))
		}
		if !same(given, n) || !twigs.Untouched(given) {
			t.Fatalf("%s was changed", show(n))
		}
		if !twigs.Apart(c) {
			t.Fatalf("Copy(%s) shares memory within", show(n))
		}
		twigs.Blot(given)
		if !same(c, n) {
			t.Fatalf("Copy(%s) shares memory with it", show(n))
		}
		again, found, _ := posix.Match(n, s, 0, i%2 == 0)
		if ok != found || !slices.Equal(l, again) {
			t.Fatalf("P3: Match(%s, %q) = %v, then %v", show(n), s, l, again)
		}
		l, all = l[:cap(l)], all[:cap(all)]
		for i := range l {
			l[i] = api.Span{From: 7, To: 7}
		}
		for i := range all {
			all[i] = api.Span{From: 7, To: 7}
		}
		third, _, _ := posix.Match(n, s, 0, i%2 == 0)
		if !slices.Equal(again, third) {
			t.Fatalf("Match(%s, %q) shares memory with an earlier answer", show(n), s)
		}
	}
}

// named is an expression that matches just what another one does, and has back-references to its groups that never come.
func named(n api.Node) api.Node {
	backs := []api.Node{empty, empty}
	for _, g := range groupsOf(n) {
		if g <= 9 {
			backs = append(backs, back(g))
		}
	}
	return cat(n, repeat(0, 0, cat(backs...)))
}

// 9.3: what never comes makes no difference, over longer texts too: neither back-references nor rounds that are too many.
func TestThreeWays(t *testing.T) {
	for part := range 4 {
		t.Run("", func(t *testing.T) {
			t.Parallel()
			chance := rand.New(rand.NewSource(int64(9300 + part)))
			for i := range 2500 {
				n := twigs.Grow(chance.Intn, 4+i%24, i%4 == 0)
				s := text(chance.Intn, "abA", 4+i%40)
				from := chance.Intn(len(s) + 1)
				want, ok, why := posix.Match(n, s, from, i%3 == 0)
				for _, other := range []api.Node{beside(n), named(n), named(beside(n))} {
					l, found, no := posix.Match(other, s, from, i%3 == 0)
					if why != api.OK || no != api.OK || ok != found || !slices.Equal(l, want) {
						t.Fatalf("Match(%s, %q, %d) = %v, but %v of %s", show(n), s, from, want, l, show(other))
					}
				}
			}
		})
	}
}
