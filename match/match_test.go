package match_test

import (
	"math/rand"
	"slices"
	"strings"
	"testing"

	"paddock/api"
	"paddock/match"
	"paddock/posix"
	"paddock/twigs"
)

// 11.1, 11.2, 11.3: the chapter's examples, and others counted by hand.
func TestExamples(t *testing.T) {
	for _, x := range []struct {
		e, s string
		fold bool
		want int
	}{
		{"a", "b", false, 2}, {"a", "a", false, 2}, {"a*", "aa", false, 16}, {"a|b", "b", false, 4},
		{"", "", false, 1}, {"", "abc", false, 1}, {"a", "", false, 1}, {"a", "bbb", false, 4}, {"a", "bba", false, 4}, {"a", "A", false, 2}, {"a", "A", true, 2}, {"ab", "aab", false, 2 + 3}, {"^a", "bb", false, 2 + 1 + 1}, {"^a", "ab", false, 3}, {"a$", "aa", false, 2 + 3}, {"$", "ab", false, 1 + 1 + 2}, {"^$", "a", false, 2 + 1}, {"^^", "", false, 3},
		// set a at each place, set b behind each a but the last
		{"ab", "aaa", false, 2 + 2 + 2 + 1},
		// open, set, close, match
		{"(a)", "a", false, 4},
		// open, set, close, back, match; where the bytes are not the same: the first four from 0 and from 1, the first two from 2
		{"(a)\\1", "aa", false, 5}, {"(.)\\1", "aA", false, 4 + 4 + 2}, {"(.)\\1", "aA", true, 5},
		// at 0: split mark set, match by the split; at 1: moved jump split mark set, match; with a group clear open, close besides
		{"a*", "a", false, 4 + 6}, {"a?", "a", false, 4 + 2}, {"(a)*", "a", false, 6 + 9},
	} {
		n := ere(t, x.e)
		if k, why := match.Steps(n, x.s, 0, x.fold, 99); why != api.OK || k != x.want {
			t.Errorf("Steps(%s, %q, %v) = %d, error %d; not %d", x.e, x.s, x.fold, k, why, x.want)
		}
	}
	a := ere(t, "a*")
	if l, ok, k, why := match.Match(a, "aa", 0, false, 16); why != api.OK || !ok || k != 16 || !slices.Equal(l, []api.Span{{From: 0, To: 2}}) {
		t.Error("Match", l, ok, k, why)
	}
	if l, ok, k, why := match.Match(a, "aa", 0, false, 15); why != api.ErrFuel || ok || k != 15 || l != nil {
		t.Error("Match with less fuel", l, ok, k, why)
	}
	if l, ok, k, why := match.Match(ere(t, "a"), "bbb", 1, false, 3); why != api.OK || ok || k != 3 || l != nil {
		t.Error("no match", l, ok, k, why)
	}
	if b, why := match.Bound(ere(t, "a"), 3); why != api.OK || b != 32 {
		t.Error("Bound", b, why)
	}
	if b, why := match.Bound(ere(t, "(a)\\1"), 3); why != api.ErrBacks || b != 0 {
		t.Error("Bound of a back-reference", b, why)
	}
}

// 11.1: what is kept parts situations just if there is a NodeBack, be it one that never comes; of groups only that of named ones does.
func TestKept(t *testing.T) {
	never := repeat(0, 0, back(1))
	for i, c := range []struct {
		n    api.Node
		want int
	}{
		// two ways from 0 to 1, either (a) or a: both go on to b and to the end together, or each by itself
		{cat(alt(group(1, of("a")), of("a")), of("b")), 4 + 3 + 1},
		{cat(alt(group(1, of("a")), of("a")), of("b"), never), 4 + 4 + 2},
		// only group 2 is named
		{cat(alt(group(1, of("a")), of("a")), of("b"), group(2, empty), repeat(0, 0, back(2))), 4 + 3 + 3},
		// by a? slot 0 has a place, by a it has none
		{cat(alt(repeat(0, 1, of("a")), of("a")), of("b")), 7 + 3 + 1},
		{cat(group(1, empty), alt(repeat(0, 1, of("a")), of("a")), of("b"), back(1)), 9 + 4 + 4},
		// behind the second clear two ways are one again: where the group was opened is forgotten with what it has kept
		{cat(repeat(2, 2, alt(group(1, of("ab")), of("ab"))), never), 5 + 8 + 4},
	} {
		if k, why := match.Steps(c.n, "ab", 0, false, 1000); why != api.OK || k != c.want {
			t.Errorf("%d: %s: %d steps, error %d; not %d", i, show(c.n), k, why, c.want)
		}
	}
}

// checkByWords holds Steps and Match against the words, from each place; false: it could not be told.
func checkByWords(t *testing.T, n api.Node, s string, fold bool, most int) bool {
	t.Helper()
	w, ok := wordsOf(n, s, fold)
	if !ok {
		return false
	}
	for from := range len(s) + 1 {
		want, first, ok := w.steps(from, most)
		got, why := match.Steps(n, s, from, fold, most)
		if !ok {
			if got != 0 || why != api.ErrFuel {
				t.Fatalf("Steps(%s, %q, %d, %v, %d) = %d, %d", show(n), s, from, fold, most, got, why)
			}
			return false
		}
		if got != want || why != api.OK {
			t.Fatalf("Steps(%s, %q, %d, %v, %d) = %d, %d; not %d", show(n), s, from, fold, most, got, why, want)
		}
		meant, is, _ := posix.Match(n, s, from, fold)
		l, found, steps, why := match.Match(n, s, from, fold, want)
		if why != api.OK || steps != want || found != is || !slices.Equal(l, meant) || (first >= 0) != is || is && meant[0].From != first {
			t.Fatalf("Match(%s, %q, %d, %v, %d) = %v, %v, %d, %d; meant is %v, from %d", show(n), s, from, fold, want, l, found, steps, why, meant, first)
		}
		if l, found, steps, why := match.Match(n, s, from, fold, want-1); l != nil || found || steps != want-1 || why != api.ErrFuel {
			t.Fatalf("Match(%s, %q, %d, %v, %d) = %v, %v, %d, %d", show(n), s, from, fold, want-1, l, found, steps, why)
		}
		if got, why := match.Steps(n, s, from, fold, want-1); got != 0 || why != api.ErrFuel {
			t.Fatalf("Steps(%s, %q, %d, %v, %d) = %d, %d", show(n), s, from, fold, want-1, got, why)
		}
	}
	return true
}

// 11.1, 11.2, 11.5: all small expressions over all short texts.
func TestSmall(t *testing.T) {
	leaves := []api.Node{of("a"), of("ab"), empty, back(1)}
	bounds := [][2]int{{0, -1}, {1, -1}, {0, 0}, {2, 2}, {0, 2}, {1, 3}}
	for size := 1; size <= 5; size++ {
		for i, n := range trees(size, leaves, bounds) {
			if size == 5 && i%61 != 0 {
				continue
			}
			for _, s := range texts("ab", 3) {
				if !checkByWords(t, n, s, false, 1<<20) {
					t.Fatal(show(n), "can't be told")
				}
			}
		}
	}
}

// 11.1, 11.2, 11.5: grown expressions, such as have back-references and others.
func TestGrown(t *testing.T) {
	chance := rand.New(rand.NewSource(111))
	told := 0
	for i := range 12000 {
		n := grow(chance.Intn, 2+i%18, i%2 == 0)
		if checkByWords(t, n, text(chance.Intn, "abAB"[:2+i%3], 7), i%3 == 0, 4000) {
			told++
		}
	}
	if told < 10000 {
		t.Error("only a few:", told)
	}
}

// 11.1: texts so long that what lies ahead of a place is kept from one beginning to the next.
func TestLongWays(t *testing.T) {
	chance := rand.New(rand.NewSource(112))
	told := 0
	for i := range 500 {
		n := cat(grow(chance.Intn, 2+i%14, false), of("x"))
		if i%2 == 0 {
			n = cat(repeat(0, -1, of("ab")), n)
		}
		n, _ = twigs.Numbered(n)
		s := strings.Repeat(text(chance.Intn, "ab", 9)+"b", 1+chance.Intn(12)) + text(chance.Intn, "abx", 3)
		w, _ := wordsOf(n, s, false)
		from := chance.Intn(20) % (len(s) + 1)
		want, _, ok := w.steps(from, 1<<20)
		if !ok || w == nil {
			continue
		}
		told++
		if got, why := match.Steps(n, s, from, false, want); got != want || why != api.OK {
			t.Fatalf("Steps(%s, %q, %d) = %d, %d; not %d", show(n), s, from, got, why, want)
		}
		if got, why := match.Steps(n, s, from, false, want-1); got != 0 || why != api.ErrFuel {
			t.Fatalf("Steps(%s, %q, %d, %d) = %d, %d", show(n), s, from, want-1, got, why)
		}
	}
	if told < 450 {
		t.Error("only a few:", told)
	}
}

// 11.1: with fold each letter is both of its cases, in sets and in back-references, and nothing else is.
func TestFold(t *testing.T) {
	twice := cat(group(1, twigs.Any()), back(1))
	for a := range 256 {
		for b := range 256 {
			c, d := byte(a), byte(b)
			same := c == d || other(c) == d
			want := 2
			if k, ok, _, _ := match.Match(of(string([]byte{c})), string([]byte{d}), 0, true, 9); ok != same || ok && k[0].To != 1 {
				t.Fatalf("%q in %q: %v, %v", c, d, k, ok)
			}
			// from 0: open set close back, and match if they are the same; else once more from 1 on
			if want = 5; !same {
				want = 4 + 4 + 2
			}
			if k, why := match.Steps(twice, string([]byte{c, d}), 0, true, 99); k != want || why != api.OK {
				t.Fatalf("(.)\\1 in %q: %d steps, error %d", []byte{c, d}, k, why)
			}
		}
	}
}
